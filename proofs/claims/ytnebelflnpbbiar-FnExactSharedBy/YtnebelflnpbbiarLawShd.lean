/-
  FnExactSharedBy, of what impl.SharedBy answers.
-/
import Derived.Test.YtnebelflnpbbiarTkKn
import Derived.Test.YtnebelflnpbbiarTreeC
import Derived.Test.YtnebelflnpbbiarSShare
import Derived.Deep.RegionHeld3
namespace Go.Proofs.Ytnebelflnpbbiar
open Go.RowKit
open Words

theorem lawShd_tk {f : Nat} (HC : ShareC f) {w wi : World} {hs : List Hold} {g len l1 h1 : Nat} {M : List Kn} {r : Int} {s : Int} (T : Tk w wi hs) (n1 : Nat) (hl : len ≤ 1048578) (hn : M.length = len) (e1 : hs[n1]? = some (l1, h1, Kns l1 h1 (.slice (some ⟨g, 0, none⟩) len len) M)) :
    Calls Try.prog f #[.agg #[.slice (some ⟨g, 0, none⟩) len len], .int .i64 r, .int .i64 s] wi fun e w' => e = .returned (.int .i64 (shareT M r s)) ∧ Tk w w' hs ∧ wi.heap.size ≤ w'.heap.size := by
  obtain ⟨rs, hr, hx⟩ := (T.get n1 e1).rd hn (T.hi n1 e1)
  refine (HC _ len len rs r s wi hl hx).mono ?_
  rintro e w' ⟨rfl, hb⟩
  rw [hr]
  exact ⟨rfl, T.below hb, hb.size⟩

set_option maxHeartbeats 1000000 in
set_option maxRecDepth 100000 in
theorem lawShd_of (a : Option Addr) (len cap : Nat) (rs : List Kw) (r s : Int) (w : World) (h : KnRd w a len rs) (HI : ShareC 26) :
    Calls Try.prog 7 #[.agg #[.slice a len cap], .int .i64 r, .int .i64 s] w fun e w' => e = .returned (.bool true) ∧ Below w.heap.size w w' := by
  obtain ⟨M, hM⟩ : ∃ M, rs.map ktell = M := ⟨_, rfl⟩
  have T0 := hide ((Tk.start w).cell #[.slice a len cap] 24)
  have H := hide h
  have HM := hide hM
  have H1 := hide h.1
  clear h hM
  go_enter Try.func7, Try.ntmps7
  go_wp2_with fail
  refine (szAr_any a len cap rs 1048576 _ (Nat.le_refl _) (H.out.below T0.out.1)).mono ?_
  rintro e w1 ⟨⟨r0, rfl, r1, r2, r3⟩, b1⟩
  have T1 := hide (T0.out.below b1)
  have k1 : w1.cell? ⟨w.heap.size, 0, none⟩ = some (.slice a len cap) := T1.out.at 0 0 rfl rfl
  clear b1 T0
  by_cases hr : r0 < 0
  · clear r3
    go_wp2
    go_ret
    exact ⟨rfl, T1.out.1⟩
  · have h3 := r3 (by omega)
    have hl : len ≤ 1048576 := by omega
    have HLL : Hid (∀ r ∈ rs, r.2.2.length ≤ 1048576) := fun r hr2 => by have := ksum_mem hr2; omega
    have OK : Hid (OkK M) := by
      have e1 : M.length = len := by rw [← HM.out, List.length_map]; exact H1.out
      have e2 : kkids M = ksum rs := by rw [← HM.out, ksum_kids]
      exact OkK.of (by omega) (by omega)
    have HN : Hid (M.length = len) := by show _ = _; rw [← HM.out, List.length_map]; exact H1.out
    have HLE := hide hl
    clear r3 h3
    go_wp2_with fail
    refine (toar_tk T1.out H.out HLE.out HLL.out HM.out).mono ?_
    rintro e w2 ⟨g1, rfl, t2, s2⟩
    have T2 := hide t2
    clear t2 T1 k1
    go_wp2_with fail
    refine (lawShd_tk sshared T2.out 0 (by omega) HN.out rfl).mono ?_
    rintro e w3 ⟨rfl, t3, s3⟩
    have T3 := hide (t3.drop (hs' := [(w.heap.size, w.heap.size + 1, Cel w.heap.size #[.slice a len cap] 24)]) (by intro x hx; simp only [List.mem_cons, List.not_mem_nil, or_false] at hx ⊢; exact .inr hx))
    have k3 : w3.cell? ⟨w.heap.size, 0, none⟩ = some (.slice a len cap) := T3.out.at 0 0 rfl rfl
    clear t3 T2
    obtain ⟨ok, hok⟩ : ∃ ok : Int, shareT M r s = ok := ⟨_, rfl⟩
    rw [hok]
    have HOK := hide hok
    clear hok
    go_wp2_with fail
    refine (toar_tk T3.out H.out HLE.out HLL.out HM.out).mono ?_
    rintro e w4 ⟨g2, rfl, t4, s4⟩
    have T5 := hide (t4.cell #[.slice (some ⟨g2, 0, none⟩) len len] 29)
    clear t4 T3 k3
    go_wp2_with fail
    generalize w4.alloc (.cells #[.slice (some ⟨g2, 0, none⟩) len len] 29) = w5 at T5 ⊢
    refine (lawShd_tk HI T5.out 1 (by omega) HN.out rfl).mono ?_
    rintro e w6 ⟨rfl, t6, s6⟩
    have T6 := hide t6
    rw [HOK.out]
    have hne : (ok != ok) = false := by simp
    have k6 : w6.cell? ⟨w.heap.size, 0, none⟩ = some (.slice a len cap) := T6.out.at 2 0 rfl rfl
    have x6 : w6.cell? ⟨w4.heap.size, 0, none⟩ = some (.slice (some ⟨g2, 0, none⟩) len len) := T6.out.at 0 0 rfl rfl
    have T6d := hide T6.out.drew
    clear t6 T5 HI
    go_wp2
    go_region_held3 (fun w' => w'.cell? ⟨w4.heap.size, 0, none⟩ = some (.slice (some ⟨g2, 0, none⟩) len len) ∧ w'.cell? ⟨w.heap.size, 0, none⟩ = some (.slice a len cap)) (first | go_keep | exact ⟨T7.out.at 1 0 rfl rfl, T7.out.at 3 0 rfl rfl⟩ | exact ⟨T8.out.at 1 0 rfl rfl, T8.out.at 3 0 rfl rfl⟩) (first
      | (go_at_call 11; with_reducible refine Calls.mono (toar_tk T6d.out H.out HLE.out HLL.out HM.out) ?_; rintro en w7 ⟨g3, rfl, t7, -⟩; have T7 := hide t7; clear t7)
      | (go_at_call 13; with_reducible refine Calls.mono (eqar_tk T7.out 2 0 OK.out rfl rfl) ?_; rintro en w8 ⟨rfl, t8, -⟩; have T8 := hide t8; clear t8))
    all_goals
      go_wp2
      go_ret
      exact ⟨rfl, T8.out.1⟩
end Go.Proofs.Ytnebelflnpbbiar
