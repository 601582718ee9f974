/-
  FnExactReadRecs, of what impl.ReadRecs answers.
-/
import Derived.Test.YtmpmdacfibgepagSReadRecs
import Derived.Test.YtmpmdacfibgepagEqRc
import Derived.Test.YtmpmdacfibgepagMkRc
import Derived.Test.YtmpmdacfibgepagFlt
namespace Go.Proofs.Ytmpmdacfibgepag
open Go.RowKit
open Words

theorem recs_size {t : ByteArray} {x : List Rc} (h : recs t.data.toList 0 = some x) : 3 * x.length ≤ t.size := by
  obtain ⟨h1, h2⟩ := recs_back x _ 0 h
  have := (recsL_len x h1).1
  rw [← h2] at this
  simpa using this
theorem rr_tk {f : Nat} {t : ByteArray} {w wi : World} {hs : List Hold} {M : List (Int × Int × Int × Int)} {ok : Bool} (C : Calls Try.prog f #[.string t] wi (RcOut wi t)) (T : Tk w wi hs) (hR : recs t.data.toList 0 = none ∧ ok = false ∧ M = [] ∨ ∃ R, recs t.data.toList 0 = some R ∧ ok = true ∧ M = R.map Rc.tu) :
    Calls Try.prog f #[.string t] wi fun e w' => ∃ ad c, e = .returned (.tuple #[.slice ad M.length c, .bool ok]) ∧ Tk w w' ((wi.heap.size, w'.heap.size, Sli 26 wi.heap.size w'.heap.size (.slice ad M.length c) M.length (rccells M)) :: hs) ∧ wi.heap.size ≤ w'.heap.size := by
  refine C.mono ?_
  rintro e w' ⟨uv, acc, ok', rfl, ho, hb, hx⟩
  obtain ⟨rfl, rfl⟩ : ok' = ok ∧ acc.map Rc.tu = M := by
    rcases hR with ⟨h1, rfl, rfl⟩ | ⟨R, h1, rfl, rfl⟩ <;> rcases hx with ⟨h2, rfl, rfl⟩ | ⟨h2, rfl⟩ <;> rw [h1] at h2 <;> simp_all
  have el : (acc.map Rc.tu).length = acc.length := by simp
  rw [← el] at ho
  have hs := Sli.of ho
  obtain ⟨ad, c, rfl, -⟩ := hs.form
  exact ⟨ad, c, rfl, T.add hb (Sli.loc _ _ _ _ _ _) hs, hb.size⟩
theorem eqrc_tk {w wi : World} {hs : List Hold} {a b : Value} {M : List (Int × Int × Int × Int)} {n l1 h1 l2 h2 : Nat} (T : Tk w wi hs) (n1 n2 : Nat) (hn : M.length = n) (hM : n ≤ 1048576) (e1 : hs[n1]? = some (l1, h1, Sli 26 l1 h1 a n (rccells M))) (e2 : hs[n2]? = some (l2, h2, Sli 26 l2 h2 b n (rccells M))) :
    Calls Try.prog 14 #[a, b] wi fun e w' => e = .returned (.bool true) ∧ Tk w w' hs ∧ wi.heap.size ≤ w'.heap.size := by
  subst hn
  refine (eqRcs_same a b M l1 h1 l2 h2 wi (by omega) (T.get n1 e1) (T.get n2 e2)).mono ?_
  rintro e w' ⟨rfl, hb⟩
  exact ⟨rfl, T.below hb, hb.size⟩
theorem markrc_tk {w wi : World} {hs hs' : List Hold} {a : Value} {M : List (Int × Int × Int × Int)} {n l1 h1 : Nat} (T : Tk w wi hs) (n1 : Nat) (hn : M.length = n) (hM : n ≤ 1048576) (hlo : w.heap.size ≤ l1) (e1 : hs[n1]? = some (l1, h1, Sli 26 l1 h1 a n (rccells M))) (hh : ∀ x ∈ hs', x ∈ hs ∧ (x.2.1 ≤ l1 ∨ h1 ≤ x.1)) :
    Calls Try.prog 15 #[a, .int .i64 1] wi fun e w' => e = .returned (.int .i64 ((1 + n * 4 : Nat) : Int)) ∧ Tk w w' ((l1, h1, Sli 26 l1 h1 a n (mkFlat patRc 1 n)) :: hs') ∧ wi.heap.size ≤ w'.heap.size := by
  refine (markRc_any l1 h1 a n 1 (rccells M) wi (by omega) (by rw [rccells_len, hn]) (by omega) (by omega) (T.hi n1 e1) (T.get n1 e1)).mono ?_
  rintro e w' ⟨rfl, hs, hk⟩
  exact ⟨rfl, T.touch hk.out hlo (T.hi n1 e1) (Sli.loc _ _ _ _ _ _) hs.out hh, hk.out.2.2.2.1⟩
theorem heldrc_tk {w wi : World} {hs : List Hold} {a : Value} {n l1 h1 : Nat} (T : Tk w wi hs) (n1 : Nat) (hM : n ≤ 1048576) (e1 : hs[n1]? = some (l1, h1, Sli 26 l1 h1 a n (mkFlat patRc 1 n))) :
    Calls Try.prog 16 #[a, .int .i64 1] wi fun e w' => e = .returned (.int .i64 ((1 + n * 4 : Nat) : Int)) ∧ Tk w w' hs ∧ wi.heap.size ≤ w'.heap.size := by
  refine (heldRc_any l1 h1 a n 1 wi (by omega) (by omega) (by omega) (T.hi n1 e1) (T.get n1 e1)).mono ?_
  rintro e w' ⟨rfl, hb⟩
  exact ⟨rfl, T.below hb, hb.size⟩

set_option maxHeartbeats 1600000 in
set_option maxRecDepth 100000 in
theorem lawRR_of (t : ByteArray) (w : World) (HI : Hid (∀ w, t.size ≤ 1048576 → Calls Try.prog 13 #[.string t] w (RcOut w t))) :
    Calls Try.prog 4 #[.string t] w fun e w' => e = .returned (.bool true) ∧ Below w.heap.size w w' := by
  by_cases hs : (1048576 : Int) < t.size
  · go_enter Try.func4, Try.ntmps4
    go_wp2
    go_ret
    exact ⟨rfl, Below.refl _ _⟩
  · have ht : t.size ≤ 1048576 := by omega
    obtain ⟨M, ok, hR, hM⟩ : ∃ (M : List (Int × Int × Int × Int)) (ok : Bool), (recs t.data.toList 0 = none ∧ ok = false ∧ M = [] ∨ ∃ R, recs t.data.toList 0 = some R ∧ ok = true ∧ M = R.map Rc.tu) ∧ M.length ≤ 1048576 := by
      cases h : recs t.data.toList 0 with
      | none => exact ⟨[], false, .inl ⟨rfl, rfl, rfl⟩, by simp⟩
      | some R =>
        have := recs_size h
        exact ⟨R.map Rc.tu, true, .inr ⟨R, rfl, rfl, rfl⟩, by simp; omega⟩
    have HR := hide hR
    have HT := hide ht
    obtain ⟨n, hn⟩ : ∃ n, M.length = n := ⟨_, rfl⟩
    have HN := hide hn
    have CS : Hid (∀ wi hs, Tk w wi hs → Calls Try.prog 12 #[.string t] wi fun e w' => ∃ ad c, e = .returned (.tuple #[.slice ad n c, .bool ok]) ∧ Tk w w' ((wi.heap.size, w'.heap.size, Sli 26 wi.heap.size w'.heap.size (.slice ad n c) n (rccells M)) :: hs) ∧ wi.heap.size ≤ w'.heap.size) := by
      intro wi hs T
      rw [← hn]
      exact rr_tk (sreadRecs t wi ht) T hR
    have CI : Hid (∀ wi hs, Tk w wi hs → Calls Try.prog 13 #[.string t] wi fun e w' => ∃ ad c, e = .returned (.tuple #[.slice ad n c, .bool ok]) ∧ Tk w w' ((wi.heap.size, w'.heap.size, Sli 26 wi.heap.size w'.heap.size (.slice ad n c) n (rccells M)) :: hs) ∧ wi.heap.size ≤ w'.heap.size) := by
      intro wi hs T
      rw [← hn]
      exact rr_tk (HI.out wi ht) T hR
    rw [hn] at hM
    have HM := hide hM
    have eo : (ok != ok) = false := by cases ok <;> rfl
    clear hR hn
    go_enter Try.func4, Try.ntmps4
    go_wp2_with fail
    refine (CS.out _ _ (Tk.start w)).mono ?_
    rintro e w1 ⟨a1, c1, rfl, t1, s1⟩
    have T1 := hide t1
    clear t1
    go_wp2_with fail
    refine (CI.out _ _ T1.out).mono ?_
    rintro e w2 ⟨a2, c2, rfl, t2, s2⟩
    have T2 := hide t2
    clear t2 T1
    go_wp2_with fail
    refine (eqrc_tk T2.out 0 1 HN.out HM.out rfl rfl).mono ?_
    rintro e w3 ⟨rfl, t3, s3⟩
    have T3 := hide t3
    clear t3 T2
    go_wp2_with fail
    refine (markrc_tk (hs' := [(w.heap.size, w1.heap.size, Sli 26 w.heap.size w1.heap.size (.slice a1 n c1) n (rccells M))]) T3.out 0 HN.out HM.out s1 rfl (by intro x hx; simp only [List.mem_cons, List.not_mem_nil, or_false] at hx ⊢; subst hx; exact ⟨.inr rfl, .inl (Nat.le_refl _)⟩)).mono ?_
    rintro e w4 ⟨rfl, t4, s4⟩
    have T4 := hide t4
    clear t4 T3
    obtain ⟨m, hm⟩ : ∃ m : Nat, 1 + n * 4 = m := ⟨_, rfl⟩
    have hm9 : m ≤ 1000000000 := by omega
    rw [hm]
    have HMM := hide hm
    clear hm
    go_wp2_with fail
    refine (heldrc_tk T4.out 0 HM.out rfl).mono ?_
    rintro e w5 ⟨rfl, t5, s5⟩
    rw [HMM.out]
    have T5 := hide t5
    clear t5 T4
    have m0 : ¬ ((m : Int) < 0) := by omega
    have mm : ((m : Int) != m) = false := by simp
    go_wp2_with fail
    refine (CI.out _ _ T5.out).mono ?_
    rintro e w6 ⟨a6, c6, rfl, t6, s6⟩
    have T6 := hide t6
    clear t6 T5
    go_wp2_with fail
    refine (eqrc_tk T6.out 0 2 HN.out HM.out rfl rfl).mono ?_
    rintro e w7 ⟨rfl, t7, s7⟩
    have T7 := hide t7
    clear t7 T6
    go_wp2_with fail
    refine (heldrc_tk T7.out 1 HM.out rfl).mono ?_
    rintro e w8 ⟨rfl, t8, s8⟩
    rw [HMM.out]
    have T8 := hide t8
    clear t8 T7
    go_wp2_with fail
    go_ret
    exact ⟨rfl, T8.out.1⟩
end Go.Proofs.Ytmpmdacfibgepag
