/-
  FnExactAllAt, of what impl.AllAt answers.
-/
import Derived.Test.YtnebelflnpbbiarTkKn
import Derived.Test.YtnebelflnpbbiarTkIs
import Derived.Test.YtnebelflnpbbiarTreeC
import Derived.Test.YtnebelflnpbbiarSAll
import Derived.Deep.RegionHeld3
namespace Go.Proofs.Ytnebelflnpbbiar
open Go.RowKit
open Words

theorem all_tk {f : Nat} (HC : AllC f) {w wi : World} {hs : List Hold} {g len l1 h1 : Nat} {M : List Kn} {r : Int} {L : List Int} (hL : allT M r = L) (T : Tk w wi hs) (n1 : Nat) (hl : len ≤ 1048578) (hn : M.length = len) (e1 : hs[n1]? = some (l1, h1, Kns l1 h1 (.slice (some ⟨g, 0, none⟩) len len) M)) :
    Calls Try.prog f #[.agg #[.slice (some ⟨g, 0, none⟩) len len], .int .i64 r] wi fun e w' => ∃ ad c, e = .returned (.slice ad 16 c) ∧ Tk w w' ((wi.heap.size, w'.heap.size, IsH wi.heap.size w'.heap.size (.slice ad 16 c) 16 L) :: hs) ∧ wi.heap.size ≤ w'.heap.size := by
  obtain ⟨rs, hr, hx⟩ := (T.get n1 e1).rd hn (T.hi n1 e1)
  refine (HC _ len len rs r wi hl hx).mono ?_
  rintro e w' ⟨v, rfl, ho, hb⟩
  rw [hr, hL] at ho
  have hS := Sli.of ho
  have hlen : L.length = 16 := by rw [← hL, allT_len]
  rw [hlen] at hS
  obtain ⟨ad, c, rfl, -⟩ := hS.form
  exact ⟨ad, c, rfl, T.add hb (IsH.loc _ _ _ _ _) hS, hb.size⟩

set_option maxHeartbeats 2000000 in
set_option maxRecDepth 100000 in
theorem lawAll_of (a : Option Addr) (len cap : Nat) (rs : List Kw) (r : Int) (w : World) (h : KnRd w a len rs) (HI : AllC 21) :
    Calls Try.prog 6 #[.agg #[.slice a len cap], .int .i64 r] w fun e w' => e = .returned (.bool true) ∧ Below w.heap.size w w' := by
  obtain ⟨M, hM⟩ : ∃ M, rs.map ktell = M := ⟨_, rfl⟩
  obtain ⟨L, hL⟩ : ∃ L, allT M r = L := ⟨_, rfl⟩
  have HL := hide hL
  have HLn : Hid (L.length = 16) := by show _ = _; rw [← hL, allT_len]
  have T0 := hide ((Tk.start w).cell #[.slice a len cap] 24)
  have H := hide h
  have HM := hide hM
  have H1 := hide h.1
  have HIH := hide HI
  clear h hM hL HI
  go_enter Try.func6, Try.ntmps6
  go_wp2_with fail
  refine (szAr_any a len cap rs 1048576 _ (Nat.le_refl _) (H.out.below T0.out.1)).mono ?_
  rintro e w1 ⟨⟨r0, rfl, r1, r2, r3⟩, b1⟩
  have T1 := hide (T0.out.below b1)
  have k1 : w1.cell? ⟨w.heap.size, 0, none⟩ = some (.slice a len cap) := T1.out.at 0 0 rfl rfl
  clear b1 T0
  by_cases hr : r0 < 0
  · clear r3
    go_wp2
    go_ret
    exact ⟨rfl, T1.out.1⟩
  · have h3 := r3 (by omega)
    have hl : len ≤ 1048576 := by omega
    have HLL : Hid (∀ r ∈ rs, r.2.2.length ≤ 1048576) := fun r hr2 => by have := ksum_mem hr2; omega
    have OK : Hid (OkK M) := by
      have e1 : M.length = len := by rw [← HM.out, List.length_map]; exact H1.out
      have e2 : kkids M = ksum rs := by rw [← HM.out, ksum_kids]
      exact OkK.of (by omega) (by omega)
    have HN : Hid (M.length = len) := by show _ = _; rw [← HM.out, List.length_map]; exact H1.out
    have HLE := hide hl
    obtain ⟨mk, hmk⟩ : ∃ m : Nat, kend 1 M = m := ⟨_, rfl⟩
    have HMK := hide hmk
    have mk0 : ¬ ((mk : Int) < 0) := by omega
    have s1 := T1.out.1.size
    have hsz1 : w.heap.size + 1 ≤ w1.heap.size := T1.out.hi 0 rfl
    obtain ⟨m, hm⟩ : ∃ m : Nat, 1 + 16 = m := ⟨_, rfl⟩
    have HMM := hide hm
    have m0 : ¬ ((m : Int) < 0) := by omega
    have mm : ((m : Int) != m) = false := by simp
    clear r3 h3 hmk hm
    go_wp2_with fail
    refine (toar_tk T1.out H.out HLE.out HLL.out HM.out).mono ?_
    rintro e w2 ⟨g1, rfl, t2, s2⟩
    have T2 := hide t2
    clear t2 T1 k1
    go_wp2_with fail
    refine (all_tk sall HL.out T2.out 0 (by omega) HN.out rfl).mono ?_
    rintro e w3 ⟨a3, c3, rfl, t3, s3⟩
    have T3 := hide (t3.drop (hs' := [(w2.heap.size, w3.heap.size, IsH w2.heap.size w3.heap.size (.slice a3 16 c3) 16 L), (w.heap.size, w.heap.size + 1, Cel w.heap.size #[.slice a len cap] 24)]) (by intro x hx; simp only [List.mem_cons, List.not_mem_nil, or_false] at hx ⊢; rcases hx with hx | hx; exact .inl hx; exact .inr (.inr hx)))
    have k3 : w3.cell? ⟨w.heap.size, 0, none⟩ = some (.slice a len cap) := T3.out.at 1 0 rfl rfl
    clear t3 T2
    go_wp2_with fail
    refine (toar_tk T3.out H.out HLE.out HLL.out HM.out).mono ?_
    rintro e w4 ⟨g2, rfl, t4, s4⟩
    have T5 := hide (t4.cell #[.slice (some ⟨g2, 0, none⟩) len len] 29)
    have Z5 : Hid ((w4.alloc (.cells #[.slice (some ⟨g2, 0, none⟩) len len] 29)).heap.size = w4.heap.size + 1) := by show _ = _; simp
    clear t4 T3 k3
    go_wp2_with fail
    generalize w4.alloc (.cells #[.slice (some ⟨g2, 0, none⟩) len len] 29) = w5 at T5 Z5 ⊢
    refine (all_tk HIH.out HL.out T5.out 1 (by omega) HN.out rfl).mono ?_
    rintro e w6 ⟨a6, c6, rfl, t6, s6⟩
    have T6 := hide t6
    clear t6 T5
    go_wp2_with fail
    refine (eqis_tk T6.out 0 3 HLn.out (by omega) rfl rfl).mono ?_
    rintro e w6b ⟨rfl, t6b, s6b⟩
    have T6b := hide t6b
    have k6 : w6b.cell? ⟨w.heap.size, 0, none⟩ = some (.slice a len cap) := T6b.out.at 4 0 rfl rfl
    have x6 : w6b.cell? ⟨w4.heap.size, 0, none⟩ = some (.slice (some ⟨g2, 0, none⟩) len len) := T6b.out.at 1 0 rfl rfl
    have T6d := hide T6b.out.drew
    clear t6b T6
    go_wp2
    go_region_held3 (fun w' => w'.cell? ⟨w4.heap.size, 0, none⟩ = some (.slice (some ⟨g2, 0, none⟩) len len) ∧ w'.cell? ⟨w.heap.size, 0, none⟩ = some (.slice a len cap)) (first | go_keep | exact ⟨T7.out.at 2 0 rfl rfl, T7.out.at 5 0 rfl rfl⟩ | exact ⟨T8.out.at 2 0 rfl rfl, T8.out.at 5 0 rfl rfl⟩) (first
      | (go_at_call 11; with_reducible refine Calls.mono (toar_tk T6d.out H.out HLE.out HLL.out HM.out) ?_; rintro en w7 ⟨g3, rfl, t7, s7⟩; have T7 := hide t7; clear t7)
      | (go_at_call 13; with_reducible refine Calls.mono (eqar_tk T7.out 3 0 OK.out rfl rfl) ?_; rintro en w8 ⟨rfl, t8, s8⟩; have T8 := hide t8; clear t8))
    all_goals
      have z5 := Z5.out
      have x8 : w8.cell? ⟨w4.heap.size, 0, none⟩ = some (.slice (some ⟨g2, 0, none⟩) len len) := T8.out.at 2 0 rfl rfl
      clear T6d T6b T7 k6 x6
      go_wp2_with fail
      refine (markar_sp (hs' := [(w5.heap.size, w6.heap.size, IsH w5.heap.size w6.heap.size (.slice a6 16 c6) 16 L), (w2.heap.size, w3.heap.size, IsH w2.heap.size w3.heap.size (.slice a3 16 c3) 16 L), (w.heap.size, w.heap.size + 1, Cel w.heap.size #[.slice a len cap] 24)]) T8.out 3 OK.out HMK.out (by omega) rfl (by
        intro x hx
        simp only [List.mem_cons, List.not_mem_nil, or_false] at hx ⊢
        rcases hx with rfl | rfl | rfl
        · exact ⟨.inr (.inl rfl), .inr (by simp only; omega)⟩
        · exact ⟨.inr (.inr (.inr (.inr (.inl rfl)))), .inl (by simp only; omega)⟩
        · exact ⟨.inr (.inr (.inr (.inr (.inr rfl)))), .inl (by simp only; omega)⟩)).mono ?_
      rintro e w9 ⟨rfl, t9, s9⟩
      have T9 := hide t9
      clear t9 T8 x8
      go_wp2_with fail
      refine (eqis_tk T9.out 0 1 HLn.out (by omega) rfl rfl).mono ?_
      rintro e w10 ⟨rfl, t10, s10⟩
      have T10 := hide t10
      clear t10 T9
      go_wp2_with fail
      refine (markis_tk (hs' := [(w2.heap.size, w3.heap.size, IsH w2.heap.size w3.heap.size (.slice a3 16 c3) 16 L), (w.heap.size, w.heap.size + 1, Cel w.heap.size #[.slice a len cap] 24)]) T10.out 0 HLn.out (by omega) HMM.out (by omega) rfl (by
        intro x hx
        simp only [List.mem_cons, List.not_mem_nil, or_false] at hx ⊢
        rcases hx with rfl | rfl
        · exact ⟨.inr (.inl rfl), .inl (by simp only; omega)⟩
        · exact ⟨.inr (.inr rfl), .inl (by simp only; omega)⟩)).mono ?_
      rintro e w11 ⟨rfl, t11, s11⟩
      have T11 := hide t11
      clear t11 T10
      go_wp2_with fail
      refine (heldis_tk T11.out 0 (by omega) HMM.out rfl).mono ?_
      rintro e w12 ⟨rfl, t12, s12⟩
      have T12 := hide t12
      have k12 : w12.cell? ⟨w.heap.size, 0, none⟩ = some (.slice a len cap) := T12.out.at 2 0 rfl rfl
      clear t12 T11
      go_wp2_with fail
      refine (toar_tk T12.out H.out HLE.out HLL.out HM.out).mono ?_
      rintro e w13 ⟨g13, rfl, t13, s13⟩
      have T13 := hide t13
      clear t13 T12 k12
      go_wp2_with fail
      refine (all_tk HIH.out HL.out T13.out 0 (by omega) HN.out rfl).mono ?_
      rintro e w14 ⟨a14, c14, rfl, t14, s14⟩
      have T14 := hide t14
      clear t14 T13
      go_wp2_with fail
      refine (eqis_tk T14.out 0 3 HLn.out (by omega) rfl rfl).mono ?_
      rintro e w15 ⟨rfl, t15, s15⟩
      have T15 := hide t15
      clear t15 T14
      go_wp2_with fail
      refine (heldis_tk T15.out 2 (by omega) HMM.out rfl).mono ?_
      rintro e w16 ⟨rfl, t16, s16⟩
      have T16 := hide t16
      clear t16 T15
      go_wp2
      go_ret
      exact ⟨rfl, T16.out.1⟩
end Go.Proofs.Ytnebelflnpbbiar
