/-
  FnFills.
-/
import Derived.Test.YtcjgjkejhkhknaaFiMath
import Derived.Test.YtcjgjkejhkhknaaFla
import Derived.Test.YtcjgjkejhkhknaaDPl
import Derived.Test.YtcjgjkejhkhknaaPk16
import Derived.Test.YtcjgjkejhkhknaaSNew
import Derived.Test.YtcjgjkejhkhknaaSProg
import Derived.Test.YtcjgjkejhkhknaaIPlace
import Derived.Test.YtcjgjkejhkhknaaIRoom
namespace Go.Proofs.Ytcjgjkejhkhknaa
open Go.RowKit

theorem stF_len (n i : Nat) : (stF n i).length = n := by simp [stF]
theorem stF_lens {n i : Nat} {ss : List Rw} (hn : n ≤ 10) (e : ss.map tellOf = stF n i) : ss.length ≤ 1048576 ∧ ∀ r ∈ ss, r.2.2.2.length ≤ 1048576 := by
  have h1 := congrArg List.length e
  rw [List.length_map, stF_len] at h1
  refine ⟨by omega, fun r hr => ?_⟩
  have h2 := List.mem_map_of_mem (f := tellOf) hr
  rw [e] at h2
  obtain ⟨j, -, e2⟩ := List.mem_map.1 h2
  have h3 : (tellOf r).2.2.length = 4 := by rw [← e2]; simp [fillL]
  show (tellOf r).2.2.length ≤ _
  omega
theorem fplace_tk {w wi : World} {hs : List Hold} {u : Value} {l1 h1 n i : Nat} (T : Tk w wi hs) (n1 : Nat) (hn : n ≤ 10) (e1 : hs[n1]? = some (l1, h1, Fla l1 h1 u (stF n i))) {p : Int × Int × Bool} (hp : placeF (stF n i) = p) :
    Calls Try.prog 12 #[.agg #[u]] wi fun e w' => e = .returned (plV p) ∧ Tk w w' hs := by
  obtain ⟨ss, e, i1⟩ := T.get n1 e1
  obtain ⟨q1, q2⟩ := stF_lens hn e
  rw [← e] at hp
  refine (iplace_any u ss l1 h1 wi q1 q2 (T.hi n1 e1) i1).mono ?_
  rintro e w2 ⟨rfl, b2⟩
  rw [hp]
  exact ⟨rfl, T.below b2⟩
theorem froom_tk {w wi : World} {hs : List Hold} {u : Value} {l1 h1 n i : Nat} (T : Tk w wi hs) (n1 : Nat) (hn : n ≤ 10) (e1 : hs[n1]? = some (l1, h1, Fla l1 h1 u (stF n i))) {p : Nat} (hp : roomF (stF n i) = p) :
    Calls Try.prog 14 #[.agg #[u]] wi fun e w' => e = .returned (.int .i64 (p : Int)) ∧ Tk w w' hs := by
  obtain ⟨ss, e, i1⟩ := T.get n1 e1
  obtain ⟨q1, q2⟩ := stF_lens hn e
  rw [← e] at hp
  refine (iroom_any u ss l1 h1 wi q1 q2 (T.hi n1 e1) i1).mono ?_
  rintro e w2 ⟨rfl, b2⟩
  rw [hp]
  exact ⟨rfl, T.below b2⟩
theorem fopen_tk {w wi : World} {hs : List Hold} {u : Value} {l1 h1 n i : Nat} (T : Tk w wi hs) (n1 : Nat) (hn : n ≤ 10) (e1 : hs[n1]? = some (l1, h1, Fla l1 h1 u (stF n i))) (hp : openF (stF n i) = -1) :
    Calls Try.prog 15 #[.agg #[u]] wi fun e w' => e = .returned (.int .i64 (-1)) ∧ Tk w w' hs := by
  obtain ⟨ss, e, i1⟩ := T.get n1 e1
  obtain ⟨q1, q2⟩ := stF_lens hn e
  rw [← e] at hp
  refine (iopen_any u ss l1 h1 wi q1 q2 (T.hi n1 e1) i1).mono ?_
  rintro e w2 ⟨rfl, b2⟩
  rw [hp]
  exact ⟨rfl, T.below b2⟩
theorem ffree_tk {w wi : World} {hs : List Hold} {u : Value} {l1 h1 n i : Nat} (T : Tk w wi hs) (n1 : Nat) (hn : n ≤ 10) (e1 : hs[n1]? = some (l1, h1, Fla l1 h1 u (stF n i))) (hp : freeL (stF n i) = []) :
    Calls Try.prog 16 #[.agg #[u]] wi fun e w' => ∃ a c, e = .returned (.slice a 0 c) ∧ Tk w w' hs := by
  obtain ⟨ss, e, i1⟩ := T.get n1 e1
  obtain ⟨q1, q2⟩ := stF_lens hn e
  rw [← e] at hp
  refine (ifree_any u ss l1 h1 wi q1 q2 (T.hi n1 e1) i1).mono ?_
  rintro e w2 ⟨v, rfl, hv, b2⟩
  rw [hp] at hv
  obtain ⟨ad, cap, e2, -⟩ := frow_form hv
  subst e2
  exact ⟨ad, cap, rfl, T.below b2⟩
theorem fprog_tk {w wi : World} {hs : List Hold} {u : Value} {l1 h1 n i : Nat} (T : Tk w wi hs) (n1 : Nat) (hn : n ≤ 10) (e1 : hs[n1]? = some (l1, h1, Fla l1 h1 u (stF n i))) {b leaf : Int} (hp : programF (stF n i) b leaf oneX = (stF n (i + 1), true)) :
    Calls Try.prog 13 #[.agg #[u], .int .i64 b, .int .i64 leaf, .string oneX] wi fun e w' => ∃ (a2 : Option Addr) (c2 : Nat), e = .returned (.tuple #[.agg #[.slice a2 n c2], .bool true]) ∧ Hid (Tk w w' ((wi.heap.size, w'.heap.size, Fla wi.heap.size w'.heap.size (.slice a2 n c2) (stF n (i + 1))) :: hs)) ∧ wi.heap.size ≤ w'.heap.size := by
  obtain ⟨ss, e, i1⟩ := T.get n1 e1
  obtain ⟨q1, q2⟩ := stF_lens hn e
  rw [← e] at hp
  refine (sprog_any u ss l1 h1 b leaf oneX wi q1 q2 (T.hi n1 e1) i1).mono ?_
  rintro e w2 ⟨v1, rfl, f1, b2⟩
  rw [hp] at f1 ⊢
  simp only at f1 ⊢
  have T2 := T.fla b2 f1
  obtain ⟨ad1, cap1, e2⟩ := f1.form
  rw [stF_len] at e2
  subst e2
  exact ⟨ad1, cap1, rfl, T2, b2.size⟩

set_option maxHeartbeats 2000000 in
set_option maxRecDepth 100000 in
theorem lawFi (ad : Option Addr) (len cap : Nat) (w : World) (hd : CodeIn w ad len w.heap.size) :
    Calls Try.prog 3 #[.slice ad len cap] w fun e w' => e = .returned (.bool true) ∧ Below w.heap.size w w' := by
  have HD := hide hd
  clear hd
  by_cases hbig : (1048576 : Int) < len
  · go_enter Try.func3, Try.ntmps3
    go_wp2_with fail
    refine (big_any ad len cap _).mono ?_
    rintro e w1 ⟨rfl, rfl⟩
    rw [decide_eq_true hbig]
    go_wp2
    go_ret
    exact ⟨rfl, Below.refl _ _⟩
  · have hl2 : len ≤ 1048576 := by omega
    have hbd : decide ((1048576 : Int) < len) = false := decide_eq_false hbig
    clear hbig
    go_enter Try.func3, Try.ntmps3
    go_wp2_with fail
    refine (big_any ad len cap _).mono ?_
    rintro e w0 ⟨rfl, hw0⟩
    subst hw0
    rw [hbd]
    clear hbd
    go_wp2_with fail
    refine (places_any ad len cap w0 hl2 HD.out).mono ?_
    rintro e w1 ⟨g, cp, l, rfl, hg1, hg2, hl12, hall, hcell, b1⟩
    obtain ⟨x, hx⟩ : ∃ x, l[0]? = some x := ⟨_, List.getElem?_eq_getElem (by omega)⟩
    have cx : w1.cell? ⟨g, 0, none⟩ = some (.int .i64 x) := by
      obtain ⟨hj, e⟩ := List.getElem?_eq_some_iff.1 hx
      rw [← e]
      exact hcell 0 hj
    obtain ⟨x0, x1⟩ := hall x (List.mem_of_getElem? hx)
    obtain ⟨n, hn⟩ : ∃ n : Nat, 3 + x % 8 = (n : Int) := ⟨(3 + x % 8).toNat, by omega⟩
    have n3 : 3 ≤ n := by omega
    have n10 : n ≤ 10 := by omega
    have hnt : 3 + x.tmod 8 = (n : Int) := by rw [Int.tmod_eq_emod_of_nonneg (by omega)]; exact hn
    have T1 := hide ((Tk.start w0).below b1)
    have s1 := b1.size
    have EA := hide (end_at n3 n10)
    clear b1 hcell hall hl12 hg1 hg2 hx
    go_wp2_with fail
    try rw [hn]
    refine (snew_any (n : Int) _).mono ?_
    rintro e w2 ⟨u, rfl, f1, b1⟩
    rw [show decide ((3 : Int) ≤ (n : Int) ∧ (n : Int) ≤ 10) = true from decide_eq_true (by omega)]
    rw [EA.out.2.2.2.2.2] at f1
    have T2 := hide (T1.out.fla b1 f1)
    obtain ⟨a1, c1, e1⟩ := f1.form
    rw [stF_len] at e1
    subst e1
    have s2 := b1.size
    have T3 := hide (T2.out.cell #[.slice a1 n c1] 28)
    have Z3 := hide (show (w2.alloc (.cells #[.slice a1 n c1] 28)).heap.size = w2.heap.size + 1 by simp)
    clear f1 b1 T1 T2 cx hn hnt
    go_wp2
    generalize w2.alloc (.cells #[.slice a1 n c1] 28) = w3 at T3 Z3 ⊢
    go_loopw [6] (fun iv wr => ∃ (i : Nat) (a : Option Addr) (c lo hi : Nat), iv = .int .i64 i ∧ i ≤ 4 * n ∧ Hid (hi ≤ w2.heap.size ∨ w2.heap.size + 1 ≤ lo) ∧ Hid (Tk w0 wr [(w2.heap.size, w2.heap.size + 1, Cel w2.heap.size #[.slice a n c] 28), (lo, hi, Fla lo hi (.slice a n c) (stF n i))])) (fun iv _ => 4 * n - (intOf iv).toNat)
    case atStart => exact ⟨0, a1, c1, _, _, rfl, Nat.zero_le _, Or.inl (Nat.le_refl _), T3⟩
    case round =>
      obtain ⟨i, a, c, lo, hi, rfl, hin, HH, HK⟩ := hrel
      clear T3
      have cf : wr.cell? ⟨w2.heap.size, 0, none⟩ = some (.slice a n c) := HK.out.at 0 0 rfl rfl
      by_cases hlt : (i : Int) < 4 * n
      · obtain ⟨k1, k2, k3, k4⟩ := chk_at (i := i) n3 n10 (by omega)
        obtain ⟨b, hb⟩ : ∃ b : Int, ((i / 4 : Nat) : Int) = b := ⟨_, rfl⟩
        obtain ⟨f, hf⟩ : ∃ f : Int, ((i % 4 : Nat) : Int) = f := ⟨_, rfl⟩
        obtain ⟨m, hm⟩ : ∃ m : Nat, 4 * n - i = m := ⟨_, rfl⟩
        rw [hb, hf] at k2 k3
        rw [hm] at k4
        have K2 := hide k2
        have K3 := hide k3
        have K4 := hide k4
        have hb2 : (i : Int) / 4 = b := by omega
        have hf2 : (i : Int) % 4 = f := by omega
        have hb3 : (i : Int).tdiv 4 = b := by rw [Int.tdiv_eq_ediv_of_nonneg (by omega)]; exact hb2
        have hf3 : (i : Int).tmod 4 = f := by rw [Int.tmod_eq_emod_of_nonneg (by omega)]; exact hf2
        have hm2 : 4 * (n : Int) - i = m := by omega
        have hbb : (b != b) = false := by simp
        have hff : (f != f) = false := by simp
        have hmm : ((m : Int) != (m : Int)) = false := by simp
        have HM2 := hide hm2
        have m40 : m ≤ 40 := by omega
        clear k1 k2 k3 k4 hb hf hm hm2
        go_wp2_with fail
        refine (fplace_tk HK.out 1 n10 rfl K2.out).mono ?_
        rintro e w4 ⟨rfl, t4⟩
        have T4 := hide t4
        have c4 : w4.cell? ⟨w2.heap.size, 0, none⟩ = some (.slice a n c) := T4.out.at 0 0 rfl rfl
        unfold plV
        simp only
        clear t4 HK cf
        go_wp2_with fail
        refine (fprog_tk T4.out 1 n10 rfl K3.out).mono ?_
        rintro e w5 ⟨a2, c2, rfl, t5, s5⟩
        have T5 := hide (t5.out.cell #[.slice a2 n c2] 28)
        have Z5 := hide (show (w5.alloc (.cells #[.slice a2 n c2] 28)).heap.size = w5.heap.size + 1 by simp)
        have c5 : (w5.alloc (.cells #[.slice a2 n c2] 28)).cell? ⟨w2.heap.size, 0, none⟩ = some (.slice a n c) := T5.out.at 2 0 rfl rfl
        have h4 : w2.heap.size + 1 ≤ w4.heap.size := T4.out.hi 0 rfl
        clear t5 T4 c4
        have hm2 := HM2.out
        go_wp2_with fail
        clear c5
        generalize w5.alloc (.cells #[.slice a2 n c2] 28) = w6 at T5 Z5 ⊢
        refine (froom_tk T5.out 3 n10 rfl K4.out).mono ?_
        rintro e w7 ⟨rfl, t7⟩
        have T7 := hide t7
        have c7 : w7.cell? ⟨w2.heap.size, 0, none⟩ = some (.slice a n c) := T7.out.at 2 0 rfl rfl
        have f7 : w7.frozen? ⟨w2.heap.size, 0, none⟩ = false := T7.out.fr 2 0 rfl
        have d7 : w7.cell? ⟨w5.heap.size, 0, none⟩ = some (.slice a2 n c2) := T7.out.at 0 0 rfl rfl
        have T8 : Hid (Tk w0 (w7.setCell ⟨w2.heap.size, 0, none⟩ (.slice a2 n c2)) [(w2.heap.size, w2.heap.size + 1, Cel w2.heap.size #[.slice a2 n c2] 28), (w4.heap.size, w5.heap.size, Fla w4.heap.size w5.heap.size (.slice a2 n c2) (stF n (i + 1)))]) := by
          refine T7.out.write 2 rfl (by omega) (.slice a2 n c2) (fun x hx => ?_)
          simp only [List.mem_cons, List.not_mem_nil, or_false] at hx ⊢
          subst hx
          exact ⟨Or.inr (Or.inl rfl), Or.inr h4⟩
        have HH8 : Hid (w5.heap.size ≤ w2.heap.size ∨ w2.heap.size + 1 ≤ w4.heap.size) := Or.inr h4
        clear t7 T5 T7
        go_wp2
        go_roundw
        case rel => exact ⟨i + 1, a2, c2, _, _, by go_num, by omega, HH8, T8⟩
        case measure => simp [intOf]; omega
      · have hi4 : i = 4 * n := by omega
        rw [hi4] at HK
        obtain ⟨-, k2, k3, k4, k5, -⟩ := EA.out
        have K2 := hide k2
        have K3 := hide k3
        have K4 := hide k4
        have K5 := hide k5
        clear k2 k3 k4 k5 hi4 hin
        go_wp2_with fail
        refine (fplace_tk HK.out 1 n10 rfl K2.out).mono ?_
        rintro e w4 ⟨rfl, t4⟩
        have T4 := hide t4
        have c4 : w4.cell? ⟨w2.heap.size, 0, none⟩ = some (.slice a n c) := T4.out.at 0 0 rfl rfl
        unfold plV
        simp only
        clear t4 HK cf
        go_wp2_with fail
        refine (froom_tk T4.out 1 n10 rfl K3.out).mono ?_
        rintro e w5 ⟨rfl, t5⟩
        have T5 := hide t5
        have c5 : w5.cell? ⟨w2.heap.size, 0, none⟩ = some (.slice a n c) := T5.out.at 0 0 rfl rfl
        clear t5 T4 c4
        go_wp2_with fail
        refine (fopen_tk T5.out 1 n10 rfl K4.out).mono ?_
        rintro e w6 ⟨rfl, t6⟩
        have T6 := hide t6
        have c6 : w6.cell? ⟨w2.heap.size, 0, none⟩ = some (.slice a n c) := T6.out.at 0 0 rfl rfl
        clear t6 T5 c5
        go_wp2_with fail
        refine (ffree_tk T6.out 1 n10 rfl K5.out).mono ?_
        rintro e w7 ⟨fa, fc, rfl, t7⟩
        have B7 := hide t7.1
        clear t7 T6 c6
        go_wp2
        go_ret
        exact ⟨rfl, B7.out⟩
end Go.Proofs.Ytcjgjkejhkhknaa
