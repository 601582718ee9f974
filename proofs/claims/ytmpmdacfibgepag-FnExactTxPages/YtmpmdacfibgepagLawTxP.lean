/-
  FnExactTxPages, of what impl.TxPages answers.
-/
import Derived.Test.YtmpmdacfibgepagSTxP
import Derived.Test.YtmpmdacfibgepagTkRp
namespace Go.Proofs.Ytmpmdacfibgepag
open Go.RowKit
open Words

theorem rc_of_tu (ls : List (Int × Int × Int × Int)) : ∃ l : List Rc, l.map Rc.tu = ls := ⟨ls.map (fun t => ⟨t.1, t.2.1, t.2.2.1, t.2.2.2⟩), by rw [List.map_map]; exact (List.map_congr_left (fun t _ => rfl)).trans (List.map_id _)⟩
theorem txOut_len (seq tx : Int) (l : List Rc) : (txOut seq tx l).length ≤ 9 := by
  unfold txOut
  split
  · rename_i h; rw [txPgs_len]; exact h.2.1
  · simp

set_option maxHeartbeats 1600000 in
set_option maxRecDepth 100000 in
theorem lawTxP_of (seq tx : Int) (a : Option Addr) (len cap : Nat) (ls : List (Int × Int × Int × Int)) (w : World) (h : RcRow w a len ls)
    (HI : Hid (∀ (seq tx : Int) (ad : Option Addr) (len cap : Nat) (l : List Rc) (w : World), len ≤ 1048576 → RcRow w ad len (l.map Rc.tu) → Calls Try.prog 20 #[.int .i64 seq, .int .i64 tx, .slice ad len cap] w (PgOut w (txOut seq tx l) (@decide (TxOk seq tx l) (decTx seq tx l))))) :
    Calls Try.prog 5 #[.int .i64 seq, .int .i64 tx, .slice a len cap] w fun e w' => e = .returned (.bool true) ∧ Below w.heap.size w w' := by
  obtain ⟨l, rfl⟩ := rc_of_tu ls
  have H := hide h
  have HL := hide h.1
  have hlm := h.2.1
  clear h
  go_enter Try.func5, Try.ntmps5
  go_wp2_with fail
  refine (szRcs_any a len cap 1048576 _ (by omega) hlm).mono ?_
  rintro e w0 ⟨⟨r, rfl, r1, r2, r3⟩, hw0⟩
  subst hw0
  by_cases hr : r < 0
  · go_wp2
    go_ret
    exact ⟨rfl, Below.refl _ _⟩
  have hl : len ≤ 1048576 := by have := r3 (by omega); omega
  clear r3 hlm
  obtain ⟨Q, hQ⟩ : ∃ Q, txOut seq tx l = Q := ⟨_, rfl⟩
  obtain ⟨ok, hok⟩ : ∃ ok, @decide (TxOk seq tx l) (decTx seq tx l) = ok := ⟨_, rfl⟩
  obtain ⟨M, hM⟩ : ∃ M, Q.map Pg.tu = M := ⟨_, rfl⟩
  obtain ⟨n, hn⟩ : ∃ n, M.length = n := ⟨_, rfl⟩
  have hn9 : n ≤ 1048576 := by
    have := txOut_len seq tx l
    rw [hQ] at this
    rw [← hn, ← hM, List.length_map]
    omega
  have HLN := hide hl
  have HN := hide hn
  have HM := hide hn9
  have LM := hide (show (l.map Rc.tu).length = len from HL.out)
  have CS : Hid (∀ (wi : World) (hs : List Hold) (g n1 l1 h1 : Nat), Tk w0 wi hs → hs[n1]? = some (l1, h1, Sli 26 l1 h1 (.slice (some ⟨g, 0, none⟩) len len) len (rccells (l.map Rc.tu))) → Calls Try.prog 18 #[.int .i64 seq, .int .i64 tx, .slice (some ⟨g, 0, none⟩) len len] wi fun e w' => ∃ ad c, e = .returned (.tuple #[.slice ad n c, .bool ok]) ∧ Tk w0 w' ((wi.heap.size, w'.heap.size, Sli 84 wi.heap.size w'.heap.size (.slice ad n c) n (pgcells M)) :: hs) ∧ wi.heap.size ≤ w'.heap.size) := by
    intro wi hs g n1 l1 h1 T e1
    refine txp_tk ?_ T hM hn
    have := stxPages seq tx (some ⟨g, 0, none⟩) len len l wi (by omega) ((T.get n1 e1).rcrow LM.out hl (T.hi n1 e1))
    rw [hQ, hok] at this
    exact this
  have CI : Hid (∀ (wi : World) (hs : List Hold) (g n1 l1 h1 : Nat), Tk w0 wi hs → hs[n1]? = some (l1, h1, Sli 26 l1 h1 (.slice (some ⟨g, 0, none⟩) len len) len (rccells (l.map Rc.tu))) → Calls Try.prog 20 #[.int .i64 seq, .int .i64 tx, .slice (some ⟨g, 0, none⟩) len len] wi fun e w' => ∃ ad c, e = .returned (.tuple #[.slice ad n c, .bool ok]) ∧ Tk w0 w' ((wi.heap.size, w'.heap.size, Sli 84 wi.heap.size w'.heap.size (.slice ad n c) n (pgcells M)) :: hs) ∧ wi.heap.size ≤ w'.heap.size) := by
    intro wi hs g n1 l1 h1 T e1
    refine txp_tk ?_ T hM hn
    have := HI.out seq tx (some ⟨g, 0, none⟩) len len l wi hl ((T.get n1 e1).rcrow LM.out hl (T.hi n1 e1))
    rw [hQ, hok] at this
    exact this
  have eo : (ok != ok) = false := by cases ok <;> rfl
  clear hQ hok hM hn hl hn9 HI
  generalize l.map Rc.tu = ls at H HL LM CS CI
  go_wp2_with fail
  refine (torc_tk (Tk.start w0) H.out HLN.out).mono ?_
  rintro e w1 ⟨g1, rfl, t1, s1⟩
  have T1 := hide t1
  clear t1
  go_wp2_with fail
  refine (CS.out _ _ g1 0 _ _ T1.out rfl).mono ?_
  rintro e w2 ⟨a2, c2, rfl, t2, s2⟩
  have T2 := hide (t2.drop (hs' := [(w1.heap.size, w2.heap.size, Sli 84 w1.heap.size w2.heap.size (.slice a2 n c2) n (pgcells M))]) (by intro x hx; simp only [List.mem_cons, List.not_mem_nil, or_false] at hx ⊢; exact .inl hx))
  clear t2 T1
  go_wp2_with fail
  refine (torc_tk T2.out H.out HLN.out).mono ?_
  rintro e w3 ⟨g3, rfl, t3, s3⟩
  have T3 := hide t3
  clear t3 T2
  go_wp2_with fail
  refine (CI.out _ _ g3 0 _ _ T3.out rfl).mono ?_
  rintro e w4 ⟨a4, c4, rfl, t4, s4⟩
  have T4 := hide t4
  clear t4 T3
  go_wp2_with fail
  refine (eqpg_tk T4.out 0 2 HN.out HM.out rfl rfl).mono ?_
  rintro e w5 ⟨rfl, t5, s5⟩
  have T5 := hide t5
  clear t5 T4
  go_wp2_with fail
  refine (torc_tk T5.out H.out HLN.out).mono ?_
  rintro e w6 ⟨g6, rfl, t6, s6⟩
  have T6 := hide t6
  clear t6 T5
  go_wp2_with fail
  refine (eqrcs_tk T6.out 2 0 LM.out HLN.out rfl rfl).mono ?_
  rintro e w7 ⟨rfl, t7, s7⟩
  have T7 := hide t7
  clear t7 T6
  go_wp2_with fail
  refine (markrcs_tk (hs' := [(w3.heap.size, w4.heap.size, Sli 84 w3.heap.size w4.heap.size (.slice a4 n c4) n (pgcells M)), (w1.heap.size, w2.heap.size, Sli 84 w1.heap.size w2.heap.size (.slice a2 n c2) n (pgcells M))]) T7.out 2 LM.out HLN.out (by omega) rfl (by
    intro x hx
    simp only [List.mem_cons, List.not_mem_nil, or_false] at hx ⊢
    rcases hx with rfl | rfl
    · exact ⟨.inr (.inl rfl), .inr (Nat.le_refl _)⟩
    · exact ⟨.inr (.inr (.inr rfl)), .inl (Nat.le_refl _)⟩)).mono ?_
  rintro e w8 ⟨rfl, t8, s8⟩
  have T8 := hide t8
  clear t8 T7
  obtain ⟨mk, hmk⟩ : ∃ m : Nat, 1 + len * 4 = m := ⟨_, rfl⟩
  rw [hmk]
  have mk0 : ¬ ((mk : Int) < 0) := by omega
  have HMK := hide hmk
  clear hmk
  go_wp2_with fail
  refine (eqpg_tk T8.out 0 1 HN.out HM.out rfl rfl).mono ?_
  rintro e w9 ⟨rfl, t9, s9⟩
  have T9 := hide t9
  clear t9 T8
  go_wp2_with fail
  refine (markpg_tk (hs' := [(w1.heap.size, w2.heap.size, Sli 84 w1.heap.size w2.heap.size (.slice a2 n c2) n (pgcells M))]) T9.out 0 HN.out HM.out (by omega) rfl (by
    intro x hx
    simp only [List.mem_cons, List.not_mem_nil, or_false] at hx ⊢
    subst hx
    exact ⟨.inr rfl, .inl (by simp only; omega)⟩)).mono ?_
  rintro e w10 ⟨rfl, t10, s10⟩
  have T10 := hide t10
  clear t10 T9
  obtain ⟨m, hm⟩ : ∃ m : Nat, 1 + n * 6 = m := ⟨_, rfl⟩
  rw [hm]
  have m0 : ¬ ((m : Int) < 0) := by omega
  have mm : ((m : Int) != m) = false := by simp
  have HMM := hide hm
  clear hm
  go_wp2_with fail
  refine (heldpg_tk T10.out 0 HM.out rfl).mono ?_
  rintro e w11 ⟨rfl, t11, s11⟩
  rw [HMM.out]
  have T11 := hide t11
  clear t11 T10
  go_wp2_with fail
  refine (torc_tk T11.out H.out HLN.out).mono ?_
  rintro e w12 ⟨g12, rfl, t12, s12⟩
  have T12 := hide t12
  clear t12 T11
  go_wp2_with fail
  refine (CI.out _ _ g12 0 _ _ T12.out rfl).mono ?_
  rintro e w13 ⟨a13, c13, rfl, t13, s13⟩
  have T13 := hide t13
  clear t13 T12
  go_wp2_with fail
  refine (eqpg_tk T13.out 0 3 HN.out HM.out rfl rfl).mono ?_
  rintro e w14 ⟨rfl, t14, s14⟩
  have T14 := hide t14
  clear t14 T13
  go_wp2_with fail
  refine (heldpg_tk T14.out 2 HM.out rfl).mono ?_
  rintro e w15 ⟨rfl, t15, s15⟩
  rw [HMM.out]
  have T15 := hide t15
  clear t15 T14
  go_wp2_with fail
  go_ret
  exact ⟨rfl, T15.out.1⟩
end Go.Proofs.Ytmpmdacfibgepag
