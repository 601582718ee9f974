/-
  FnExactStoreNew.
-/
import Derived.Test.YtmpmdacfibgepagStoTk
import Derived.Test.YtmpmdacfibgepagPk49
namespace Go.Proofs.Ytmpmdacfibgepag
open Go.RowKit
open Words

theorem new_tk {f : Nat} (HC : NewC f) {w wi : World} {hs : List Hold} (T : Tk w wi hs) :
    Calls Try.prog f #[] wi fun e w' => ∃ va vc ad cap, e = .returned (.agg #[.slice va 0 vc, .slice ad 0 cap, .int .i64 1]) ∧ Tk w w' ((wi.heap.size, w'.heap.size, Sts wi.heap.size w'.heap.size (.agg #[.slice va 0 vc, .slice ad 0 cap, .int .i64 1]) stoNew) :: hs) ∧ wi.heap.size ≤ w'.heap.size := by
  refine (HC wi).mono ?_
  rintro e w' ⟨v, rfl, h⟩
  obtain ⟨va, vc, ad, cap, rfl⟩ := h.sts.form
  exact ⟨va, vc, ad, cap, rfl, T.add h.blw (Sts.loc _ _ _ _) h.sts, h.blw.size⟩
theorem oks_new : OkS stoNew := OkS.of (by show (0 : Nat) ≤ _; omega) (by show (0 : Nat) ≤ _; omega) (by show (0 : Nat) ≤ _; omega)
def SameN (m : Nat) : Prop := kend (1 + stoNew.vols.length * 2) stoNew.kns = m ∧ m ≤ 1000000000

set_option maxHeartbeats 1000000 in
set_option maxRecDepth 100000 in
theorem lawNewS (w : World) :
    Calls Try.prog 8 #[] w fun e w' => e = .returned (.bool true) ∧ Below w.heap.size w w' := by
  obtain ⟨m, hm⟩ : ∃ m, SameN m := ⟨1, rfl, by omega⟩
  have HM := hide hm
  have m0 : ¬ ((m : Int) < 0) := by omega
  have mm : ((m : Int) != m) = false := by simp
  clear hm
  go_enter Try.func8, Try.ntmps8
  go_wp2_with fail
  refine (new_tk snewS (Tk.start w)).mono ?_
  rintro e w1 ⟨va, vc, ad, cap, rfl, t1, s1⟩
  have T1 := hide (t1.cell #[.slice va 0 vc, .slice ad 0 cap, .int .i64 1] 65)
  have Z1 : Hid ((w1.alloc (.cells #[.slice va 0 vc, .slice ad 0 cap, .int .i64 1] 65)).heap.size = w1.heap.size + 1) := by show _ = _; simp
  clear t1
  go_wp2_with fail
  generalize w1.alloc (.cells #[.slice va 0 vc, .slice ad 0 cap, .int .i64 1] 65) = w2 at T1 Z1 ⊢
  refine (new_tk inewS T1.out).mono ?_
  rintro e w3 ⟨ua, uc, bd, cbp, rfl, t3, s3⟩
  have T3 := hide (t3.cell #[.slice ua 0 uc, .slice bd 0 cbp, .int .i64 1] 65)
  have Z3 : Hid ((w3.alloc (.cells #[.slice ua 0 uc, .slice bd 0 cbp, .int .i64 1] 65)).heap.size = w3.heap.size + 1) := by show _ = _; simp
  have x0 := T3.out.at 2 0 rfl rfl
  have x1 := T3.out.at 2 1 rfl rfl
  have x2 := T3.out.at 2 2 rfl rfl
  clear t3 T1
  go_wp2_with fail
  clear x0 x1 x2
  generalize w3.alloc (.cells #[.slice ua 0 uc, .slice bd 0 cbp, .int .i64 1] 65) = w4 at T3 Z3 ⊢
  refine (eqsto_tk T3.out 1 3 oks_new rfl rfl).mono ?_
  rintro e w5 ⟨rfl, t5, s5⟩
  have T5 := hide t5
  have x0 : w5.cell? ⟨w3.heap.size, 0, none⟩ = some (.slice ua 0 uc) := T5.out.at 0 0 rfl rfl
  have x1 : w5.cell? ⟨w3.heap.size, 1, none⟩ = some (.slice bd 0 cbp) := T5.out.at 0 1 rfl rfl
  have x2 : w5.cell? ⟨w3.heap.size, 2, none⟩ = some (.int .i64 1) := T5.out.at 0 2 rfl rfl
  clear t5 T3
  go_wp2_with fail
  refine (marksto_tk (hs' := [(w3.heap.size, w3.heap.size + 1, Cel w3.heap.size #[.slice ua 0 uc, .slice bd 0 cbp, .int .i64 1] 65), (w1.heap.size, w1.heap.size + 1, Cel w1.heap.size #[.slice va 0 vc, .slice ad 0 cap, .int .i64 1] 65), (w.heap.size, w1.heap.size, Sts w.heap.size w1.heap.size (.agg #[.slice va 0 vc, .slice ad 0 cap, .int .i64 1]) stoNew)]) T5.out 1 oks_new HM.out.1 (by have := Z1.out; omega) rfl (by
    have := Z1.out
    intro x hx
    simp only [List.mem_cons, List.not_mem_nil, or_false] at hx ⊢
    rcases hx with rfl | rfl | rfl
    · exact ⟨.inl rfl, .inr (by simp only; omega)⟩
    · exact ⟨.inr (.inr (.inl rfl)), .inl (by simp only; omega)⟩
    · exact ⟨.inr (.inr (.inr rfl)), .inl (by simp only; omega)⟩)).mono ?_
  rintro e w6 ⟨rfl, t6, s6⟩
  have T6 := hide t6
  have y0 : w6.cell? ⟨w3.heap.size, 0, none⟩ = some (.slice ua 0 uc) := T6.out.at 1 0 rfl rfl
  have y1 : w6.cell? ⟨w3.heap.size, 1, none⟩ = some (.slice bd 0 cbp) := T6.out.at 1 1 rfl rfl
  have y2 : w6.cell? ⟨w3.heap.size, 2, none⟩ = some (.int .i64 1) := T6.out.at 1 2 rfl rfl
  clear t6 T5 x0 x1 x2
  go_wp2_with fail
  refine (heldsto_tk T6.out 0 HM.out.2 rfl).mono ?_
  rintro e w7 ⟨rfl, t7, s7⟩
  have T7 := hide t7
  clear t7 T6 y0 y1 y2
  go_wp2_with fail
  refine (new_tk inewS T7.out).mono ?_
  rintro e w8 ⟨qa, qc, rd, rc, rfl, t8, s8⟩
  have T8 := hide (t8.cell #[.slice qa 0 qc, .slice rd 0 rc, .int .i64 1] 65)
  have x0 := T8.out.at 4 0 rfl rfl
  have x1 := T8.out.at 4 1 rfl rfl
  have x2 := T8.out.at 4 2 rfl rfl
  clear t8 T7
  go_wp2_with fail
  clear x0 x1 x2
  generalize w8.alloc (.cells #[.slice qa 0 qc, .slice rd 0 rc, .int .i64 1] 65) = w9 at T8 ⊢
  refine (eqsto_tk T8.out 1 5 oks_new rfl rfl).mono ?_
  rintro e w10 ⟨rfl, t10, s10⟩
  have T10 := hide t10
  have y0 : w10.cell? ⟨w3.heap.size, 0, none⟩ = some (.slice ua 0 uc) := T10.out.at 3 0 rfl rfl
  have y1 : w10.cell? ⟨w3.heap.size, 1, none⟩ = some (.slice bd 0 cbp) := T10.out.at 3 1 rfl rfl
  have y2 : w10.cell? ⟨w3.heap.size, 2, none⟩ = some (.int .i64 1) := T10.out.at 3 2 rfl rfl
  clear t10 T8
  go_wp2_with fail
  refine (heldsto_tk T10.out 2 HM.out.2 rfl).mono ?_
  rintro e w11 ⟨rfl, t11, s11⟩
  have T11 := hide t11
  clear t11 T10 y0 y1 y2
  go_wp2
  go_ret
  exact ⟨rfl, T11.out.1⟩
end Go.Proofs.Ytmpmdacfibgepag
