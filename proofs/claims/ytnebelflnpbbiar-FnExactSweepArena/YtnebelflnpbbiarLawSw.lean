/-
  FnExactSweepArena, of what impl.SweepArena answers.
-/
import Derived.Test.YtnebelflnpbbiarPk17
import Derived.Test.YtnebelflnpbbiarPk21
import Derived.Test.YtnebelflnpbbiarSSweep
import Derived.Deep.RegionHeld3
namespace Go.Proofs.Ytnebelflnpbbiar
open Go.RowKit
open Words

set_option maxHeartbeats 4000000 in
set_option maxRecDepth 100000 in
theorem lawSw_of (a : Option Addr) (len cap : Nat) (rs : List Kw) (ra : Option Addr) (n rc : Nat) (qs : List Int) (w : World) (h : KnRd w a len rs) (hq : ISl w (.slice ra n rc) qs) (HI : SweepC 29) :
    Calls Try.prog 8 #[.agg #[.slice a len cap], .slice ra n rc] w fun e w' => e = .returned (.bool true) ∧ Below w.heap.size w w' := by
  obtain ⟨ra', rc', eq1, -, hrow⟩ := hq
  injection eq1 with q1 q2 q3
  subst q1 q3
  have hqn : qs.length = n := q2.symm
  rw [hqn] at hrow
  have HQN := hide hqn
  have HRW := hide hrow
  clear q2 hqn hrow
  obtain ⟨M, hM⟩ : ∃ M, rs.map ktell = M := ⟨_, rfl⟩
  obtain ⟨L, hL⟩ : ∃ L, sweepL M qs = L := ⟨_, rfl⟩
  obtain ⟨R, hR⟩ : ∃ R, sweepR M qs = R := ⟨_, rfl⟩
  have HL := hide hL
  have HR := hide hR
  have HRN : Hid (R.length = n) := by show _ = _; rw [← hR, swR_len]; exact HQN.out
  have T0 := hide ((Tk.start w).cell #[.slice a len cap] 24)
  have H := hide h
  have HM := hide hM
  have H1 := hide h.1
  have HIH := hide HI
  clear h hM hL hR HI
  by_cases hbig : (1048576 : Int) < n
  · go_enter Try.func8, Try.ntmps8
    go_wp2
    go_ret
    exact ⟨rfl, T0.out.1⟩
  have hn : n ≤ 1048576 := by omega
  go_enter Try.func8, Try.ntmps8
  go_wp2_with fail
  refine (szAr_any a len cap rs 1048576 _ (Nat.le_refl _) (H.out.below T0.out.1)).mono ?_
  rintro e w1 ⟨⟨r0, rfl, r1, r2, r3⟩, b1⟩
  have T1 := hide (T0.out.below b1)
  have k1 : w1.cell? ⟨w.heap.size, 0, none⟩ = some (.slice a len cap) := T1.out.at 0 0 rfl rfl
  clear b1 T0
  by_cases hr : r0 < 0
  · clear r3
    go_wp2
    go_ret
    exact ⟨rfl, T1.out.1⟩
  · have h3 := r3 (by omega)
    have hl : len ≤ 1048576 := by omega
    have HLL : Hid (∀ r ∈ rs, r.2.2.length ≤ 1048576) := fun r hr2 => by have := ksum_mem hr2; omega
    have HN : Hid (M.length = len) := by show _ = _; rw [← HM.out, List.length_map]; exact H1.out
    have HK : Hid (kkids M ≤ 1048576) := by show _ ≤ _; have e2 : kkids M = ksum rs := by rw [← HM.out, ksum_kids]
                                            omega
    have OK : Hid (OkK M) := OkK.of (by have := HN.out; omega) HK.out
    have OL : Hid (OkK L) := by rw [← HL.out]; exact sweep_ok (by have := HN.out; omega) HK.out
    have HLE := hide hl
    obtain ⟨mk, hmk⟩ : ∃ m : Nat, kend 1 M = m := ⟨_, rfl⟩
    have HMK := hide hmk
    have mkp : 0 < mk := by rw [← hmk]; exact kend_pos M
    have mk9 : mk ≤ 1000000000 := by rw [← hmk]; exact OK.out.2.2
    obtain ⟨ml, hml⟩ : ∃ m : Nat, kend 1 L = m := ⟨_, rfl⟩
    have HML := hide hml
    have mlp : 0 < ml := by rw [← hml]; exact kend_pos L
    have ml9 : ml ≤ 1000000000 := by rw [← hml]; exact OL.out.2.2
    obtain ⟨mn, hmn⟩ : ∃ m : Nat, mk + n = m := ⟨_, rfl⟩
    have HMN := hide hmn
    obtain ⟨me, hme⟩ : ∃ m : Nat, ml + n = m := ⟨_, rfl⟩
    have HME := hide hme
    have mn0 : ¬ ((mn : Int) < 0) := by omega
    have ml0 : ¬ ((ml : Int) < 0) := by omega
    have me0 : ¬ ((me : Int) < 0) := by omega
    have mee : ((me : Int) != me) = false := by simp
    have s1 := T1.out.1.size
    have hsz1 : w.heap.size + 1 ≤ w1.heap.size := T1.out.hi 0 rfl
    obtain ⟨lL, hlL⟩ : ∃ lL, L.length = lL := ⟨_, rfl⟩
    have HlL := hide hlL
    have hlo : len ≤ 1048578 := by omega
    clear r3 h3 hmk hml hlL hmn hme
    go_wp2_with fail
    refine (toar_tk T1.out H.out HLE.out HLL.out HM.out).mono ?_
    rintro e w2 ⟨g2, rfl, t_w2, s_w2⟩
    have T2 := hide t_w2
    clear t_w2
    clear T1 k1
    go_wp2_with fail
    refine (tois_tk T2.out HRW.out hn).mono ?_
    rintro e w3 ⟨g3, rfl, t_w3, s_w3⟩
    have T3 := hide t_w3
    clear t_w3
    clear T2
    go_wp2_with fail
    refine (gsw_tk ssweep OK.out.2.1 T3.out 1 0 HN.out hlo HQN.out hn rfl rfl).mono ?_
    rw [HL.out, HR.out]
    rintro e w4 ⟨a4, c4, n4, d4, lk4, hk4, ls4, hs4, rfl, t_w4, p4, q4, v4, s_w4⟩
    rw [HlL.out] at t_w4 ⊢
    have hkh4 : hk4 ≤ w4.heap.size := t_w4.hi 1 rfl
    have hsh4 : hs4 ≤ w4.heap.size := t_w4.hi 0 rfl
    have T4 := hide ((t_w4.cell #[.slice a4 lL c4] 29).drop (hs' := [(w4.heap.size, w4.heap.size + 1, Cel w4.heap.size #[.slice a4 lL c4] 29), (ls4, hs4, Sli 3 ls4 hs4 (.slice n4 n d4) n (icells R)), (lk4, hk4, Kns lk4 hk4 (.slice a4 lL c4) L), (w.heap.size, w.heap.size + 1, Cel w.heap.size #[.slice a len cap] 24)]) (by
        intro x hx
        simp only [List.mem_cons, List.not_mem_nil, or_false] at hx ⊢
        rcases hx with rfl | rfl | rfl | rfl
        · exact .inl rfl
        · exact .inr (.inl rfl)
        · exact .inr (.inr (.inl rfl))
        · exact .inr (.inr (.inr (.inr (.inr rfl))))))
    have Zw4b : Hid ((w4.alloc (.cells #[.slice a4 lL c4] 29)).heap.size = w4.heap.size + 1) := by show _ = _; simp
    clear t_w4 T3
    have k4 : (w4.alloc (.cells #[.slice a4 lL c4] 29)).cell? ⟨w.heap.size, 0, none⟩ = some (.slice a len cap) := T4.out.at 3 0 rfl rfl
    go_wp2_with fail
    generalize w4.alloc (.cells #[.slice a4 lL c4] 29) = w4b at T4 k4 Zw4b ⊢
    refine (toar_tk T4.out H.out HLE.out HLL.out HM.out).mono ?_
    rintro e w5 ⟨g5, rfl, t_w5, s_w5⟩
    have T5 := hide (t_w5.cell #[.slice (some ⟨g5, 0, none⟩) len len] 29)
    have Zw5b : Hid ((w5.alloc (.cells #[.slice (some ⟨g5, 0, none⟩) len len] 29)).heap.size = w5.heap.size + 1) := by show _ = _; simp
    clear t_w5 T4 k4
    go_wp2_with fail
    generalize w5.alloc (.cells #[.slice (some ⟨g5, 0, none⟩) len len] 29) = w5b at T5 Zw5b ⊢
    refine (tois_tk T5.out HRW.out hn).mono ?_
    rintro e w6 ⟨g6, rfl, t_w6, s_w6⟩
    have T6 := hide t_w6
    clear t_w6 T5
    have k6 : w6.cell? ⟨w5.heap.size, 0, none⟩ = some (.slice (some ⟨g5, 0, none⟩) len len) := T6.out.at 1 0 rfl rfl
    go_wp2_with fail
    refine (gsw_tk HIH.out OK.out.2.1 T6.out 2 0 HN.out hlo HQN.out hn rfl rfl).mono ?_
    rw [HL.out, HR.out]
    rintro e w7 ⟨a7, c7, n7, d7, lk7, hk7, ls7, hs7, rfl, t_w7, p7, q7, v7, s_w7⟩
    rw [HlL.out] at t_w7 ⊢
    have hkh7 : hk7 ≤ w7.heap.size := t_w7.hi 1 rfl
    have hsh7 : hs7 ≤ w7.heap.size := t_w7.hi 0 rfl
    have T7 := hide (t_w7.cell #[.slice a7 lL c7] 29)
    have Zw7b : Hid ((w7.alloc (.cells #[.slice a7 lL c7] 29)).heap.size = w7.heap.size + 1) := by show _ = _; simp
    clear t_w7 T6 k6
    have j7 : (w7.alloc (.cells #[.slice a7 lL c7] 29)).cell? ⟨w7.heap.size, 0, none⟩ = some (.slice a7 lL c7) := T7.out.at 0 0 rfl rfl
    have i7 : (w7.alloc (.cells #[.slice a7 lL c7] 29)).cell? ⟨w4.heap.size, 0, none⟩ = some (.slice a4 lL c4) := T7.out.at 6 0 rfl rfl
    go_wp2_with fail
    generalize w7.alloc (.cells #[.slice a7 lL c7] 29) = w7b at T7 j7 i7 Zw7b ⊢
    refine (eqar_tk T7.out 2 8 OL.out rfl rfl).mono ?_
    rintro e w8 ⟨rfl, t_w8, s_w8⟩
    have T8 := hide t_w8
    clear t_w8 T7
    clear j7 i7
    go_wp2_with fail
    refine (eqi_tk T8.out 1 7 HRN.out hn rfl rfl).mono ?_
    rintro e w9 ⟨rfl, t_w9, s_w9⟩
    have T9 := hide t_w9
    clear t_w9 T8
    have k9 : w9.cell? ⟨w.heap.size, 0, none⟩ = some (.slice a len cap) := T9.out.at 9 0 rfl rfl
    have x9 : w9.cell? ⟨w5.heap.size, 0, none⟩ = some (.slice (some ⟨g5, 0, none⟩) len len) := T9.out.at 4 0 rfl rfl
    have T9d := hide T9.out.drew
    have C1 := hide (toar_tk (cap := cap) T9d.out H.out HLE.out HLL.out HM.out)
    have KP : Hid True := trivial
    go_wp2
    go_region_held3 (fun w' => w'.cell? ⟨w5.heap.size, 0, none⟩ = some (.slice (some ⟨g5, 0, none⟩) len len) ∧ w'.cell? ⟨w.heap.size, 0, none⟩ = some (.slice a len cap)) (first | exact KP.out | go_keep) (first
      | (go_at_call 11; (with_reducible refine Calls.mono C1.out ?_); rintro en w10 ⟨g10, rfl, t10, s_w10⟩; have T10 := hide t10; clear t10 C1 KP; have KP : Hid ((fun w' : World => w'.cell? ⟨w5.heap.size, 0, none⟩ = some (.slice (some ⟨g5, 0, none⟩) len len) ∧ w'.cell? ⟨w.heap.size, 0, none⟩ = some (.slice a len cap)) w10) := ⟨T10.out.at 5 0 rfl rfl, T10.out.at 10 0 rfl rfl⟩; have C2 := hide (eqar_tk T10.out 6 0 OK.out rfl rfl))
      | (go_at_call 13; (with_reducible refine Calls.mono C2.out ?_); rintro en w11 ⟨rfl, t11, s_w11⟩; have T11 := hide t11; clear t11 C2 KP T10; have KP : Hid ((fun w' : World => w'.cell? ⟨w5.heap.size, 0, none⟩ = some (.slice (some ⟨g5, 0, none⟩) len len) ∧ w'.cell? ⟨w.heap.size, 0, none⟩ = some (.slice a len cap)) w11) := ⟨T11.out.at 5 0 rfl rfl, T11.out.at 10 0 rfl rfl⟩))
    all_goals
      clear T9d T9 k9 x9 KP
      have s911 : w9.heap.size ≤ w11.heap.size := Nat.le_trans (Nat.le_trans (Nat.le_refl _) s_w10) s_w11
      go_wp2_with fail
      refine (tois_tk (cap := rc) T11.out HRW.out hn).mono ?_
      rintro e w12 ⟨g12, rfl, t_w12, s_w12⟩
      have T12 := hide t_w12
      clear t_w12 T11
      go_wp2_with fail
      refine (eqi_tk T12.out 5 0 HQN.out hn rfl rfl).mono ?_
      rintro e w13 ⟨rfl, t_w13, s_w13⟩
      have T13 := hide (t_w13.drop (hs' := [(w7.heap.size, w7.heap.size + 1, Cel w7.heap.size #[.slice a7 lL c7] 29), (ls7, hs7, Sli 3 ls7 hs7 (.slice n7 n d7) n (icells R)), (lk7, hk7, Kns lk7 hk7 (.slice a7 lL c7) L), (w5b.heap.size, w6.heap.size, Sli 3 w5b.heap.size w6.heap.size (.slice (some ⟨g6, 0, none⟩) n n) n (icells qs)), (w5.heap.size, w5.heap.size + 1, Cel w5.heap.size #[.slice (some ⟨g5, 0, none⟩) len len] 29), (w4b.heap.size, w5.heap.size, Kns w4b.heap.size w5.heap.size (.slice (some ⟨g5, 0, none⟩) len len) M), (w4.heap.size, w4.heap.size + 1, Cel w4.heap.size #[.slice a4 lL c4] 29), (ls4, hs4, Sli 3 ls4 hs4 (.slice n4 n d4) n (icells R)), (lk4, hk4, Kns lk4 hk4 (.slice a4 lL c4) L), (w.heap.size, w.heap.size + 1, Cel w.heap.size #[.slice a len cap] 24)]) (fun x hx => List.mem_cons_of_mem _ (List.mem_cons_of_mem _ hx)))
      clear t_w13 T12
      have x13 : w13.cell? ⟨w5.heap.size, 0, none⟩ = some (.slice (some ⟨g5, 0, none⟩) len len) := T13.out.at 4 0 rfl rfl
      have z4 := Zw4b.out
      have z5 := Zw5b.out
      have z7 := Zw7b.out
      go_wp2_with fail
      refine (markar_sp (hs' := [(w7.heap.size, w7.heap.size + 1, Cel w7.heap.size #[.slice a7 lL c7] 29), (ls7, hs7, Sli 3 ls7 hs7 (.slice n7 n d7) n (icells R)), (lk7, hk7, Kns lk7 hk7 (.slice a7 lL c7) L), (w5b.heap.size, w6.heap.size, Sli 3 w5b.heap.size w6.heap.size (.slice (some ⟨g6, 0, none⟩) n n) n (icells qs)), (w4.heap.size, w4.heap.size + 1, Cel w4.heap.size #[.slice a4 lL c4] 29), (ls4, hs4, Sli 3 ls4 hs4 (.slice n4 n d4) n (icells R)), (lk4, hk4, Kns lk4 hk4 (.slice a4 lL c4) L), (w.heap.size, w.heap.size + 1, Cel w.heap.size #[.slice a len cap] 24)]) T13.out 5 OK.out HMK.out (by omega) rfl (by
        intro x hx
        simp only [List.mem_cons, List.not_mem_nil, or_false] at hx ⊢
        rcases hx with rfl | rfl | rfl | rfl | rfl | rfl | rfl | rfl
        · exact ⟨.inl rfl, .inr (by simp only; omega)⟩
        · exact ⟨.inr (.inl rfl), .inr (by simp only; omega)⟩
        · exact ⟨.inr (.inr (.inl rfl)), .inr (by simp only; omega)⟩
        · exact ⟨.inr (.inr (.inr (.inl rfl))), .inr (by simp only; omega)⟩
        · exact ⟨.inr (.inr (.inr (.inr (.inr (.inr (.inl rfl)))))), .inl (by simp only; omega)⟩
        · exact ⟨.inr (.inr (.inr (.inr (.inr (.inr (.inr (.inl rfl))))))), .inl (by simp only; omega)⟩
        · exact ⟨.inr (.inr (.inr (.inr (.inr (.inr (.inr (.inr (.inl rfl)))))))), .inl (by simp only; omega)⟩
        · exact ⟨.inr (.inr (.inr (.inr (.inr (.inr (.inr (.inr (.inr rfl)))))))), .inl (by simp only; omega)⟩)).mono ?_
      rintro e w14 ⟨rfl, t_w14, s_w14⟩
      have T14 := hide t_w14
      clear t_w14 T13 x13
      go_wp2_with fail
      refine (marki_tk (hs' := [(w7.heap.size, w7.heap.size + 1, Cel w7.heap.size #[.slice a7 lL c7] 29), (ls7, hs7, Sli 3 ls7 hs7 (.slice n7 n d7) n (icells R)), (lk7, hk7, Kns lk7 hk7 (.slice a7 lL c7) L), (w4.heap.size, w4.heap.size + 1, Cel w4.heap.size #[.slice a4 lL c4] 29), (ls4, hs4, Sli 3 ls4 hs4 (.slice n4 n d4) n (icells R)), (lk4, hk4, Kns lk4 hk4 (.slice a4 lL c4) L), (w.heap.size, w.heap.size + 1, Cel w.heap.size #[.slice a len cap] 24)]) T14.out 3 HQN.out hn mkp mk9 HMN.out (by omega) rfl (by
        intro x hx
        simp only [List.mem_cons, List.not_mem_nil, or_false] at hx ⊢
        rcases hx with rfl | rfl | rfl | rfl | rfl | rfl | rfl
        · exact ⟨.inl rfl, .inr (by simp only; omega)⟩
        · exact ⟨.inr (.inl rfl), .inr (by simp only; omega)⟩
        · exact ⟨.inr (.inr (.inl rfl)), .inr (by simp only; omega)⟩
        · exact ⟨.inr (.inr (.inr (.inr (.inl rfl)))), .inl (by simp only; omega)⟩
        · exact ⟨.inr (.inr (.inr (.inr (.inr (.inl rfl))))), .inl (by simp only; omega)⟩
        · exact ⟨.inr (.inr (.inr (.inr (.inr (.inr (.inl rfl)))))), .inl (by simp only; omega)⟩
        · exact ⟨.inr (.inr (.inr (.inr (.inr (.inr (.inr rfl)))))), .inl (by simp only; omega)⟩)).mono ?_
      rintro e w15 ⟨rfl, t_w15, s_w15⟩
      have T15 := hide (t_w15.drop (hs' := [(w7.heap.size, w7.heap.size + 1, Cel w7.heap.size #[.slice a7 lL c7] 29), (ls7, hs7, Sli 3 ls7 hs7 (.slice n7 n d7) n (icells R)), (lk7, hk7, Kns lk7 hk7 (.slice a7 lL c7) L), (w4.heap.size, w4.heap.size + 1, Cel w4.heap.size #[.slice a4 lL c4] 29), (ls4, hs4, Sli 3 ls4 hs4 (.slice n4 n d4) n (icells R)), (lk4, hk4, Kns lk4 hk4 (.slice a4 lL c4) L), (w.heap.size, w.heap.size + 1, Cel w.heap.size #[.slice a len cap] 24)]) (fun x hx => List.mem_cons_of_mem _ hx))
      clear t_w15 T14
      have j15 : w15.cell? ⟨w7.heap.size, 0, none⟩ = some (.slice a7 lL c7) := T15.out.at 0 0 rfl rfl
      have i15 : w15.cell? ⟨w4.heap.size, 0, none⟩ = some (.slice a4 lL c4) := T15.out.at 3 0 rfl rfl
      go_wp2_with fail
      refine (eqar_tk T15.out 2 5 OL.out rfl rfl).mono ?_
      rintro e w16 ⟨rfl, t_w16, s_w16⟩
      have T16 := hide t_w16
      clear t_w16 T15
      clear j15 i15
      go_wp2_with fail
      refine (eqi_tk T16.out 1 4 HRN.out hn rfl rfl).mono ?_
      rintro e w17 ⟨rfl, t_w17, s_w17⟩
      have T17 := hide t_w17
      clear t_w17 T16
      have j17 : w17.cell? ⟨w7.heap.size, 0, none⟩ = some (.slice a7 lL c7) := T17.out.at 0 0 rfl rfl
      go_wp2_with fail
      refine (markar_tk (hs' := [(w7.heap.size, w7.heap.size + 1, Cel w7.heap.size #[.slice a7 lL c7] 29), (ls7, hs7, Sli 3 ls7 hs7 (.slice n7 n d7) n (icells R)), (w4.heap.size, w4.heap.size + 1, Cel w4.heap.size #[.slice a4 lL c4] 29), (ls4, hs4, Sli 3 ls4 hs4 (.slice n4 n d4) n (icells R)), (lk4, hk4, Kns lk4 hk4 (.slice a4 lL c4) L), (w.heap.size, w.heap.size + 1, Cel w.heap.size #[.slice a len cap] 24)]) T17.out 2 OL.out HML.out (by omega) rfl (by
        intro x hx
        simp only [List.mem_cons, List.not_mem_nil, or_false] at hx ⊢
        rcases hx with rfl | rfl | rfl | rfl | rfl | rfl
        · exact ⟨.inl rfl, .inr (by simp only; omega)⟩
        · exact ⟨.inr (.inl rfl), (by rcases v7 with hv | hv; exact .inr hv; exact .inl hv)⟩
        · exact ⟨.inr (.inr (.inr (.inl rfl))), .inl (by simp only; omega)⟩
        · exact ⟨.inr (.inr (.inr (.inr (.inl rfl)))), .inl (by simp only; omega)⟩
        · exact ⟨.inr (.inr (.inr (.inr (.inr (.inl rfl))))), .inl (by simp only; omega)⟩
        · exact ⟨.inr (.inr (.inr (.inr (.inr (.inr rfl))))), .inl (by simp only; omega)⟩)).mono ?_
      rintro e w18 ⟨rfl, t_w18, s_w18⟩
      have T18 := hide t_w18
      clear t_w18 T17 j17
      go_wp2_with fail
      refine (marki_tk (hs' := [(lk7, hk7, MKn lk7 hk7 (.slice a7 lL c7) ml), (w7.heap.size, w7.heap.size + 1, Cel w7.heap.size #[.slice a7 lL c7] 29), (w4.heap.size, w4.heap.size + 1, Cel w4.heap.size #[.slice a4 lL c4] 29), (ls4, hs4, Sli 3 ls4 hs4 (.slice n4 n d4) n (icells R)), (lk4, hk4, Kns lk4 hk4 (.slice a4 lL c4) L), (w.heap.size, w.heap.size + 1, Cel w.heap.size #[.slice a len cap] 24)]) T18.out 2 HRN.out hn mlp ml9 HME.out (by omega) rfl (by
        intro x hx
        simp only [List.mem_cons, List.not_mem_nil, or_false] at hx ⊢
        rcases hx with rfl | rfl | rfl | rfl | rfl | rfl
        · exact ⟨.inl rfl, (by rcases v7 with hv | hv; exact .inl hv; exact .inr hv)⟩
        · exact ⟨.inr (.inl rfl), .inr (by simp only; omega)⟩
        · exact ⟨.inr (.inr (.inr (.inl rfl))), .inl (by simp only; omega)⟩
        · exact ⟨.inr (.inr (.inr (.inr (.inl rfl)))), .inl (by simp only; omega)⟩
        · exact ⟨.inr (.inr (.inr (.inr (.inr (.inl rfl))))), .inl (by simp only; omega)⟩
        · exact ⟨.inr (.inr (.inr (.inr (.inr (.inr rfl))))), .inl (by simp only; omega)⟩)).mono ?_
      rintro e w19 ⟨rfl, t_w19, s_w19⟩
      have T19 := hide t_w19
      clear t_w19 T18
      have j19 : w19.cell? ⟨w7.heap.size, 0, none⟩ = some (.slice a7 lL c7) := T19.out.at 2 0 rfl rfl
      go_wp2_with fail
      refine (heldar_tk T19.out 1 ml9 rfl).mono ?_
      rintro e w20 ⟨rfl, t_w20, s_w20⟩
      have T20 := hide t_w20
      clear t_w20 T19 j19
      go_wp2_with fail
      refine (heldi_tk T20.out 0 hn mlp ml9 HME.out rfl).mono ?_
      rintro e w21 ⟨rfl, t_w21, s_w21⟩
      have T21 := hide t_w21
      clear t_w21 T20
      have k21 : w21.cell? ⟨w.heap.size, 0, none⟩ = some (.slice a len cap) := T21.out.at 6 0 rfl rfl
      go_wp2_with fail
      refine (toar_tk T21.out H.out HLE.out HLL.out HM.out).mono ?_
      rintro e w22 ⟨g22, rfl, t_w22, s_w22⟩
      have T22 := hide t_w22
      clear t_w22
      clear T21 k21
      go_wp2_with fail
      refine (tois_tk T22.out HRW.out hn).mono ?_
      rintro e w23 ⟨g23, rfl, t_w23, s_w23⟩
      have T23 := hide t_w23
      clear t_w23
      clear T22
      go_wp2_with fail
      refine (gsw_tk HIH.out OK.out.2.1 T23.out 1 0 HN.out hlo HQN.out hn rfl rfl).mono ?_
      rw [HL.out, HR.out]
      rintro e w24 ⟨a9, c9, n9, d9, lk9, hk9, ls9, hs9, rfl, t_w24, p9, q9, v9, s_w24⟩
      rw [HlL.out] at t_w24 ⊢
      have hkh9 : hk9 ≤ w24.heap.size := t_w24.hi 1 rfl
      have hsh9 : hs9 ≤ w24.heap.size := t_w24.hi 0 rfl
      have T24 := hide ((t_w24.cell #[.slice a9 lL c9] 29).drop (hs' := [(w24.heap.size, w24.heap.size + 1, Cel w24.heap.size #[.slice a9 lL c9] 29), (ls9, hs9, Sli 3 ls9 hs9 (.slice n9 n d9) n (icells R)), (lk9, hk9, Kns lk9 hk9 (.slice a9 lL c9) L), (ls7, hs7, IsK ls7 hs7 (.slice n7 n d7) n ml), (lk7, hk7, MKn lk7 hk7 (.slice a7 lL c7) ml), (w7.heap.size, w7.heap.size + 1, Cel w7.heap.size #[.slice a7 lL c7] 29), (w4.heap.size, w4.heap.size + 1, Cel w4.heap.size #[.slice a4 lL c4] 29), (ls4, hs4, Sli 3 ls4 hs4 (.slice n4 n d4) n (icells R)), (lk4, hk4, Kns lk4 hk4 (.slice a4 lL c4) L), (w.heap.size, w.heap.size + 1, Cel w.heap.size #[.slice a len cap] 24)]) (by
        intro x hx
        simp only [List.mem_cons, List.not_mem_nil, or_false] at hx ⊢
        rcases hx with rfl | rfl | rfl | rfl | rfl | rfl | rfl | rfl | rfl | rfl
        · exact .inl rfl
        · exact .inr (.inl rfl)
        · exact .inr (.inr (.inl rfl))
        · exact .inr (.inr (.inr (.inr (.inr (.inl rfl)))))
        · exact .inr (.inr (.inr (.inr (.inr (.inr (.inl rfl))))))
        · exact .inr (.inr (.inr (.inr (.inr (.inr (.inr (.inl rfl)))))))
        · exact .inr (.inr (.inr (.inr (.inr (.inr (.inr (.inr (.inl rfl))))))))
        · exact .inr (.inr (.inr (.inr (.inr (.inr (.inr (.inr (.inr (.inl rfl)))))))))
        · exact .inr (.inr (.inr (.inr (.inr (.inr (.inr (.inr (.inr (.inr (.inl rfl))))))))))
        · exact .inr (.inr (.inr (.inr (.inr (.inr (.inr (.inr (.inr (.inr (.inr rfl))))))))))))
      have Zw24b : Hid ((w24.alloc (.cells #[.slice a9 lL c9] 29)).heap.size = w24.heap.size + 1) := by show _ = _; simp
      clear t_w24 T23
      have j24 : (w24.alloc (.cells #[.slice a9 lL c9] 29)).cell? ⟨w24.heap.size, 0, none⟩ = some (.slice a9 lL c9) := T24.out.at 0 0 rfl rfl
      have i24 : (w24.alloc (.cells #[.slice a9 lL c9] 29)).cell? ⟨w4.heap.size, 0, none⟩ = some (.slice a4 lL c4) := T24.out.at 6 0 rfl rfl
      go_wp2_with fail
      generalize w24.alloc (.cells #[.slice a9 lL c9] 29) = w24b at T24 j24 i24 Zw24b ⊢
      refine (eqar_tk T24.out 2 8 OL.out rfl rfl).mono ?_
      rintro e w25 ⟨rfl, t_w25, s_w25⟩
      have T25 := hide t_w25
      clear t_w25 T24
      clear j24 i24
      go_wp2_with fail
      refine (eqi_tk T25.out 1 7 HRN.out hn rfl rfl).mono ?_
      rintro e w26 ⟨rfl, t_w26, s_w26⟩
      have T26 := hide t_w26
      clear t_w26 T25
      have j26 : w26.cell? ⟨w7.heap.size, 0, none⟩ = some (.slice a7 lL c7) := T26.out.at 5 0 rfl rfl
      go_wp2_with fail
      refine (heldar_tk T26.out 4 ml9 rfl).mono ?_
      rintro e w27 ⟨rfl, t_w27, s_w27⟩
      have T27 := hide t_w27
      clear t_w27 T26 j26
      go_wp2_with fail
      refine (heldi_tk T27.out 3 hn mlp ml9 HME.out rfl).mono ?_
      rintro e w28 ⟨rfl, t_w28, s_w28⟩
      have T28 := hide t_w28
      clear t_w28 T27
      go_wp2
      go_ret
      exact ⟨rfl, T28.out.1⟩
end Go.Proofs.Ytnebelflnpbbiar
