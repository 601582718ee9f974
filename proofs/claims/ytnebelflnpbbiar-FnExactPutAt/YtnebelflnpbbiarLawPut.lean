/-
  FnExactPutAt, of what impl.PutAt answers.
-/
import Derived.Test.YtnebelflnpbbiarTkKn
import Derived.Test.YtnebelflnpbbiarTreeC
import Derived.Test.YtnebelflnpbbiarSPut
import Derived.Deep.RegionHeld3
namespace Go.Proofs.Ytnebelflnpbbiar
open Go.RowKit
open Words

theorem kids_at {M : List Kn} {i : Nat} (h : kkids M ≤ 1048576) : (((M[i]?).map Kn.kids).getD []).length ≤ 1048576 := by
  cases hx : M[i]? with
  | none => simp
  | some x => exact Nat.le_trans (kmem_sum (List.mem_of_getElem? hx)) h
theorem putL_ok {M : List Kn} {r s n : Int} (h1 : M.length ≤ 1048576) (h2 : kkids M ≤ 1048576) : OkK (putL M r s n) := by
  unfold putL
  split
  · have a1 : (putLf M r s.toNat n).kids.length ≤ 1048576 := by
      simp only [putLf, List.length_set]
      split
      · simp
      · split
        · simp
        · exact kids_at h2
    have a2 : (putTop M r s.toNat).kids.length ≤ 1048576 := by
      simp only [putTop, List.length_set]
      split
      · simp
      · exact kids_at h2
    refine ⟨by rw [List.length_append]; simp only [List.length_cons, List.length_nil]; omega, fun t ht => ?_, ?_⟩
    · rcases List.mem_append.1 ht with ht | ht
      · exact Nat.le_trans (kmem_sum ht) h2
      · simp only [List.mem_cons, List.not_mem_nil, or_false] at ht
        rcases ht with rfl | rfl
        · exact a1
        · exact a2
    · rw [kend_eq, kkids, List.map_append, List.sum_append, List.length_append]
      simp only [List.map_cons, List.map_nil, List.sum_cons, List.sum_nil, List.length_cons, List.length_nil]
      unfold kkids at h2
      omega
  · exact OkK.of h1 h2
theorem put_tk {f : Nat} (HC : PutC f) {w wi : World} {hs : List Hold} {g len l1 h1 : Nat} {M L : List Kn} {r s n R : Int} (hL : putL M r s n = L) (hR : putR M r s n = R) (T : Tk w wi hs) (n1 : Nat) (hl : len ≤ 1048578) (hn : M.length = len) (ho : OkK M) (e1 : hs[n1]? = some (l1, h1, Kns l1 h1 (.slice (some ⟨g, 0, none⟩) len len) M)) :
    Calls Try.prog f #[.agg #[.slice (some ⟨g, 0, none⟩) len len], .int .i64 r, .int .i64 s, .int .i64 n] wi fun e w' => ∃ a c, e = .returned (.tuple #[.agg #[.slice a L.length c], .int .i64 R]) ∧ Tk w w' ((wi.heap.size, w'.heap.size, Kns wi.heap.size w'.heap.size (.slice a L.length c) L) :: hs) ∧ wi.heap.size ≤ w'.heap.size := by
  obtain ⟨rs, hr, hx⟩ := (T.get n1 e1).rd hn (T.hi n1 e1)
  refine (HC _ len len rs r s n wi hl (ho.row hr).2 hx).mono ?_
  rintro e w' ⟨v, rfl, uv, ss, rfl, ko, hss, hb⟩
  rw [hr, hL] at hss
  rw [hr, hR]
  obtain ⟨ua, uc, rfl⟩ := ko.form
  have hlen : ss.length = L.length := by rw [← hss, List.length_map]
  rw [hlen] at ko ⊢
  exact ⟨ua, uc, rfl, T.add hb (Kns.loc _ _ _ _) ⟨ss, hss, ko.kns⟩, hb.size⟩

set_option maxHeartbeats 2000000 in
set_option maxRecDepth 100000 in
theorem lawPut_of (a : Option Addr) (len cap : Nat) (rs : List Kw) (r s n : Int) (w : World) (h : KnRd w a len rs) (HI : PutC 17) :
    Calls Try.prog 5 #[.agg #[.slice a len cap], .int .i64 r, .int .i64 s, .int .i64 n] w fun e w' => e = .returned (.bool true) ∧ Below w.heap.size w w' := by
  obtain ⟨M, hM⟩ : ∃ M, rs.map ktell = M := ⟨_, rfl⟩
  obtain ⟨L, hL⟩ : ∃ L, putL M r s n = L := ⟨_, rfl⟩
  obtain ⟨R, hR⟩ : ∃ R, putR M r s n = R := ⟨_, rfl⟩
  have HL := hide hL
  have HR := hide hR
  have T0 := hide ((Tk.start w).cell #[.slice a len cap] 24)
  have H := hide h
  have HM := hide hM
  have H1 := hide h.1
  have HIH := hide HI
  clear h hM hL hR HI
  go_enter Try.func5, Try.ntmps5
  go_wp2_with fail
  refine (szAr_any a len cap rs 1048576 _ (Nat.le_refl _) (H.out.below T0.out.1)).mono ?_
  rintro e w1 ⟨⟨r0, rfl, r1, r2, r3⟩, b1⟩
  have T1 := hide (T0.out.below b1)
  have k1 : w1.cell? ⟨w.heap.size, 0, none⟩ = some (.slice a len cap) := T1.out.at 0 0 rfl rfl
  clear b1 T0
  by_cases hr : r0 < 0
  · clear r3
    go_wp2
    go_ret
    exact ⟨rfl, T1.out.1⟩
  · have h3 := r3 (by omega)
    have hl : len ≤ 1048576 := by omega
    have HLL : Hid (∀ r ∈ rs, r.2.2.length ≤ 1048576) := fun r hr2 => by have := ksum_mem hr2; omega
    have HN : Hid (M.length = len) := by show _ = _; rw [← HM.out, List.length_map]; exact H1.out
    have HK : Hid (kkids M ≤ 1048576) := by show _ ≤ _; have e2 : kkids M = ksum rs := by rw [← HM.out, ksum_kids]
                                            omega
    have OK : Hid (OkK M) := OkK.of (by have := HN.out; omega) HK.out
    have OL : Hid (OkK L) := by have := putL_ok (r := r) (s := s) (n := n) (show M.length ≤ 1048576 by have := HN.out; omega) HK.out; rw [HL.out] at this; exact this
    have HLE := hide hl
    obtain ⟨mk, hmk⟩ : ∃ m : Nat, kend 1 M = m := ⟨_, rfl⟩
    have HMK := hide hmk
    have mk0 : ¬ ((mk : Int) < 0) := by omega
    have s1 := T1.out.1.size
    have hsz1 : w.heap.size + 1 ≤ w1.heap.size := T1.out.hi 0 rfl
    obtain ⟨m, hm⟩ : ∃ m : Nat, kend 1 L = m := ⟨_, rfl⟩
    have HMM := hide hm
    have hm9 : m ≤ 1000000000 := by rw [← hm]; exact OL.out.2.2
    have m0 : ¬ ((m : Int) < 0) := by omega
    have mm : ((m : Int) != m) = false := by simp
    have RR : (R != R) = false := by simp
    obtain ⟨lL, hlL⟩ : ∃ lL, L.length = lL := ⟨_, rfl⟩
    have HlL := hide hlL
    clear r3 h3 hmk hm hlL
    go_wp2_with fail
    refine (toar_tk T1.out H.out HLE.out HLL.out HM.out).mono ?_
    rintro e w2 ⟨g1, rfl, t2, s2⟩
    have T2 := hide t2
    clear t2 T1 k1
    go_wp2_with fail
    refine (put_tk sput HL.out HR.out T2.out 0 (by omega) HN.out OK.out rfl).mono ?_
    rintro e w3 ⟨a3, c3, rfl, t3, s3⟩
    rw [HlL.out] at t3 ⊢
    have T3 := hide ((t3.drop (hs' := [(w2.heap.size, w3.heap.size, Kns w2.heap.size w3.heap.size (.slice a3 lL c3) L), (w.heap.size, w.heap.size + 1, Cel w.heap.size #[.slice a len cap] 24)]) (by intro x hx; simp only [List.mem_cons, List.not_mem_nil, or_false] at hx ⊢; rcases hx with hx | hx; exact .inl hx; exact .inr (.inr hx))).cell #[.slice a3 lL c3] 29)
    have Z3 : Hid ((w3.alloc (.cells #[.slice a3 lL c3] 29)).heap.size = w3.heap.size + 1) := by show _ = _; simp
    have k3 : (w3.alloc (.cells #[.slice a3 lL c3] 29)).cell? ⟨w.heap.size, 0, none⟩ = some (.slice a len cap) := T3.out.at 2 0 rfl rfl
    clear t3 T2
    go_wp2_with fail
    generalize w3.alloc (.cells #[.slice a3 lL c3] 29) = w3b at T3 Z3 k3 ⊢
    refine (toar_tk T3.out H.out HLE.out HLL.out HM.out).mono ?_
    rintro e w4 ⟨g2, rfl, t4, s4⟩
    have T5 := hide (t4.cell #[.slice (some ⟨g2, 0, none⟩) len len] 29)
    have Z5 : Hid ((w4.alloc (.cells #[.slice (some ⟨g2, 0, none⟩) len len] 29)).heap.size = w4.heap.size + 1) := by show _ = _; simp
    clear t4 T3 k3
    go_wp2_with fail
    generalize w4.alloc (.cells #[.slice (some ⟨g2, 0, none⟩) len len] 29) = w5 at T5 Z5 ⊢
    refine (put_tk HIH.out HL.out HR.out T5.out 1 (by omega) HN.out OK.out rfl).mono ?_
    rintro e w6 ⟨a6, c6, rfl, t6, s6⟩
    rw [HlL.out] at t6 ⊢
    have T6 := hide (t6.cell #[.slice a6 lL c6] 29)
    have Z6 : Hid ((w6.alloc (.cells #[.slice a6 lL c6] 29)).heap.size = w6.heap.size + 1) := by show _ = _; simp
    have j6 : (w6.alloc (.cells #[.slice a6 lL c6] 29)).cell? ⟨w6.heap.size, 0, none⟩ = some (.slice a6 lL c6) := T6.out.at 0 0 rfl rfl
    have i6 : (w6.alloc (.cells #[.slice a6 lL c6] 29)).cell? ⟨w3.heap.size, 0, none⟩ = some (.slice a3 lL c3) := T6.out.at 4 0 rfl rfl
    clear t6 T5
    go_wp2_with fail
    generalize w6.alloc (.cells #[.slice a6 lL c6] 29) = w6a at T6 Z6 j6 i6 ⊢
    refine (eqar_tk T6.out 1 5 OL.out rfl rfl).mono ?_
    rintro e w6b ⟨rfl, t6b, s6b⟩
    have T6b := hide t6b
    have k6 : w6b.cell? ⟨w.heap.size, 0, none⟩ = some (.slice a len cap) := T6b.out.at 6 0 rfl rfl
    have x6 : w6b.cell? ⟨w4.heap.size, 0, none⟩ = some (.slice (some ⟨g2, 0, none⟩) len len) := T6b.out.at 2 0 rfl rfl
    have T6d := hide T6b.out.drew
    clear t6b T6 j6 i6
    go_wp2
    go_region_held3 (fun w' => w'.cell? ⟨w4.heap.size, 0, none⟩ = some (.slice (some ⟨g2, 0, none⟩) len len) ∧ w'.cell? ⟨w.heap.size, 0, none⟩ = some (.slice a len cap)) (first | go_keep | exact ⟨T7.out.at 3 0 rfl rfl, T7.out.at 7 0 rfl rfl⟩ | exact ⟨T8.out.at 3 0 rfl rfl, T8.out.at 7 0 rfl rfl⟩) (first
      | (go_at_call 11; with_reducible refine Calls.mono (toar_tk T6d.out H.out HLE.out HLL.out HM.out) ?_; rintro en w7 ⟨g3, rfl, t7, s7⟩; have T7 := hide t7; clear t7)
      | (go_at_call 13; with_reducible refine Calls.mono (eqar_tk T7.out 4 0 OK.out rfl rfl) ?_; rintro en w8 ⟨rfl, t8, s8⟩; have T8 := hide t8; clear t8))
    all_goals
      have z3 := Z3.out
      have z5 := Z5.out
      have z6 := Z6.out
      have x8 : w8.cell? ⟨w4.heap.size, 0, none⟩ = some (.slice (some ⟨g2, 0, none⟩) len len) := T8.out.at 3 0 rfl rfl
      clear T6d T6b T7 k6 x6
      go_wp2_with fail
      refine (markar_sp (hs' := [(w6.heap.size, w6.heap.size + 1, Cel w6.heap.size #[.slice a6 lL c6] 29), (w5.heap.size, w6.heap.size, Kns w5.heap.size w6.heap.size (.slice a6 lL c6) L), (w3.heap.size, w3.heap.size + 1, Cel w3.heap.size #[.slice a3 lL c3] 29), (w2.heap.size, w3.heap.size, Kns w2.heap.size w3.heap.size (.slice a3 lL c3) L), (w.heap.size, w.heap.size + 1, Cel w.heap.size #[.slice a len cap] 24)]) T8.out 4 OK.out HMK.out (by omega) rfl (by
        intro x hx
        simp only [List.mem_cons, List.not_mem_nil, or_false] at hx ⊢
        rcases hx with rfl | rfl | rfl | rfl | rfl
        · exact ⟨.inr (.inl rfl), .inr (by simp only; omega)⟩
        · exact ⟨.inr (.inr (.inl rfl)), .inr (by simp only; omega)⟩
        · exact ⟨.inr (.inr (.inr (.inr (.inr (.inl rfl))))), .inl (by simp only; omega)⟩
        · exact ⟨.inr (.inr (.inr (.inr (.inr (.inr (.inl rfl)))))), .inl (by simp only; omega)⟩
        · exact ⟨.inr (.inr (.inr (.inr (.inr (.inr (.inr rfl)))))), .inl (by simp only; omega)⟩)).mono ?_
      rintro e w9 ⟨rfl, t9, s9⟩
      have T9 := hide t9
      have j9 : w9.cell? ⟨w6.heap.size, 0, none⟩ = some (.slice a6 lL c6) := T9.out.at 0 0 rfl rfl
      have i9 : w9.cell? ⟨w3.heap.size, 0, none⟩ = some (.slice a3 lL c3) := T9.out.at 2 0 rfl rfl
      clear t9 T8 x8
      go_wp2_with fail
      refine (eqar_tk T9.out 1 3 OL.out rfl rfl).mono ?_
      rintro e w10 ⟨rfl, t10, s10⟩
      have T10 := hide t10
      have j10 : w10.cell? ⟨w6.heap.size, 0, none⟩ = some (.slice a6 lL c6) := T10.out.at 0 0 rfl rfl
      clear t10 T9 j9 i9
      go_wp2_with fail
      refine (markar_tk (hs' := [(w6.heap.size, w6.heap.size + 1, Cel w6.heap.size #[.slice a6 lL c6] 29), (w3.heap.size, w3.heap.size + 1, Cel w3.heap.size #[.slice a3 lL c3] 29), (w2.heap.size, w3.heap.size, Kns w2.heap.size w3.heap.size (.slice a3 lL c3) L), (w.heap.size, w.heap.size + 1, Cel w.heap.size #[.slice a len cap] 24)]) T10.out 1 OL.out HMM.out (by omega) rfl (by
        intro x hx
        simp only [List.mem_cons, List.not_mem_nil, or_false] at hx ⊢
        rcases hx with rfl | rfl | rfl | rfl
        · exact ⟨.inl rfl, .inr (by simp only; omega)⟩
        · exact ⟨.inr (.inr (.inl rfl)), .inl (by simp only; omega)⟩
        · exact ⟨.inr (.inr (.inr (.inl rfl))), .inl (by simp only; omega)⟩
        · exact ⟨.inr (.inr (.inr (.inr rfl))), .inl (by simp only; omega)⟩)).mono ?_
      rintro e w11 ⟨rfl, t11, s11⟩
      have T11 := hide t11
      have j11 : w11.cell? ⟨w6.heap.size, 0, none⟩ = some (.slice a6 lL c6) := T11.out.at 1 0 rfl rfl
      clear t11 T10 j10
      go_wp2_with fail
      refine (heldar_tk T11.out 0 hm9 rfl).mono ?_
      rintro e w12 ⟨rfl, t12, s12⟩
      have T12 := hide t12
      have k12 : w12.cell? ⟨w.heap.size, 0, none⟩ = some (.slice a len cap) := T12.out.at 4 0 rfl rfl
      clear t12 T11 j11
      go_wp2_with fail
      refine (toar_tk T12.out H.out HLE.out HLL.out HM.out).mono ?_
      rintro e w13 ⟨g13, rfl, t13, s13⟩
      have T13 := hide t13
      clear t13 T12 k12
      go_wp2_with fail
      refine (put_tk HIH.out HL.out HR.out T13.out 0 (by omega) HN.out OK.out rfl).mono ?_
      rintro e w14 ⟨a14, c14, rfl, t14, s14⟩
      rw [HlL.out] at t14 ⊢
      have T14 := hide (t14.cell #[.slice a14 lL c14] 29)
      have j14 : (w14.alloc (.cells #[.slice a14 lL c14] 29)).cell? ⟨w14.heap.size, 0, none⟩ = some (.slice a14 lL c14) := T14.out.at 0 0 rfl rfl
      have i14 : (w14.alloc (.cells #[.slice a14 lL c14] 29)).cell? ⟨w3.heap.size, 0, none⟩ = some (.slice a3 lL c3) := T14.out.at 5 0 rfl rfl
      clear t14 T13
      go_wp2_with fail
      generalize w14.alloc (.cells #[.slice a14 lL c14] 29) = w14a at T14 j14 i14 ⊢
      refine (eqar_tk T14.out 1 6 OL.out rfl rfl).mono ?_
      rintro e w15 ⟨rfl, t15, s15⟩
      have T15 := hide t15
      have j15 : w15.cell? ⟨w6.heap.size, 0, none⟩ = some (.slice a6 lL c6) := T15.out.at 4 0 rfl rfl
      clear t15 T14 j14 i14
      go_wp2_with fail
      refine (heldar_tk T15.out 3 hm9 rfl).mono ?_
      rintro e w16 ⟨rfl, t16, s16⟩
      have T16 := hide t16
      clear t16 T15 j15
      go_wp2
      go_ret
      exact ⟨rfl, T16.out.1⟩
end Go.Proofs.Ytnebelflnpbbiar
