/-
  FnExactGather, of what impl.Gather answers.
-/
import Derived.Test.YtmpmdacfibgepagSGath
import Derived.Test.YtmpmdacfibgepagPk23
import Derived.Test.YtmpmdacfibgepagTkTx
import Derived.Test.YtmpmdacfibgepagPk31
import Derived.Test.YtmpmdacfibgepagFdTo
import Derived.Test.YtmpmdacfibgepagPk33
import Derived.Test.YtmpmdacfibgepagFdMk
namespace Go.Proofs.Ytmpmdacfibgepag
open Go.RowKit
open Words

theorem tofd_tk {w wi : World} {hs : List Hold} {a : Option Addr} {len cap : Nat} {F : List Fnd} (T : Tk w wi hs) (H : FdRow w a len (F.map Fnd.tu)) (hl : len ≤ 1048576) :
    Calls Try.prog 26 #[.slice a len cap] wi fun e w' => ∃ g : Nat, e = .returned (.slice (some ⟨g, 0, none⟩) len len) ∧ Tk w w' ((wi.heap.size, w'.heap.size, Sli 94 wi.heap.size w'.heap.size (.slice (some ⟨g, 0, none⟩) len len) len (fcells F)) :: hs) ∧ wi.heap.size ≤ w'.heap.size := by
  refine (toFds_any a len cap (F.map Fnd.tu) wi hl (H.below T.1)).mono ?_
  rintro e w' ⟨g, rfl, ho, hb⟩
  rw [H.1, fdcells_eq] at ho
  exact ⟨g, rfl, T.add hb (Sli.loc _ _ _ _ _ _) (Sli.of ho), hb.size⟩
theorem fdeq_tk {w wi : World} {hs : List Hold} {a b : Value} {F : List Fnd} {n l1 h1 l2 h2 : Nat} (T : Tk w wi hs) (n1 n2 : Nat) (hn : F.length = n) (hM : n ≤ 1048576) (e1 : hs[n1]? = some (l1, h1, Sli 94 l1 h1 a n (fcells F))) (e2 : hs[n2]? = some (l2, h2, Sli 94 l2 h2 b n (fcells F))) :
    Calls Try.prog 29 #[a, b] wi fun e w' => e = .returned (.bool true) ∧ Tk w w' hs ∧ wi.heap.size ≤ w'.heap.size := by
  subst hn
  refine (eqFoundS_same a b F l1 h1 l2 h2 wi (by omega) (T.get n1 e1) (T.get n2 e2)).mono ?_
  rintro e w' ⟨rfl, hb⟩
  exact ⟨rfl, T.below hb, hb.size⟩
theorem fdmark_tk {w wi : World} {hs hs' : List Hold} {a : Value} {F : List Fnd} {n l1 h1 : Nat} (T : Tk w wi hs) (n1 : Nat) (hn : F.length = n) (hM : n ≤ 1048576) (hlo : w.heap.size ≤ l1) (e1 : hs[n1]? = some (l1, h1, Sli 94 l1 h1 a n (fcells F))) (hh : ∀ x ∈ hs', x ∈ hs ∧ (x.2.1 ≤ l1 ∨ h1 ≤ x.1)) :
    Calls Try.prog 30 #[a, .int .i64 1] wi fun e w' => e = .returned (.int .i64 ((1 + n * 8 : Nat) : Int)) ∧ Tk w w' hs' ∧ wi.heap.size ≤ w'.heap.size := by
  refine (markFd_any l1 h1 a n 1 (fcells F) wi (by omega) (by rw [fcells_len, hn]) (by omega) (by omega) (T.hi n1 e1) (T.get n1 e1)).mono ?_
  rintro e w' ⟨rfl, hs, hk⟩
  exact ⟨rfl, T.spoil hk.out hlo (T.hi n1 e1) hh, hk.out.2.2.2.1⟩
theorem gather_tk {f : Nat} (HC : GatherC f) {w wi : World} {hs : List Hold} {g len n l1 h1 : Nat} {F : List Fnd} {M2 : List (Int × Int × List (Int × Int × Int × Int))} (T : Tk w wi hs) (n1 : Nat) (hF : F.length = len) (hl : len ≤ 1048576) (hs' : sumF (fun p => p.text.size) (F.map Fnd.page) ≤ 1048576) (hM2 : (gatherP (F.map Fnd.page)).map TxR.tu = M2) (hn : M2.length = n) (e1 : hs[n1]? = some (l1, h1, Sli 94 l1 h1 (.slice (some ⟨g, 0, none⟩) len len) len (fcells F))) :
    Calls Try.prog f #[.slice (some ⟨g, 0, none⟩) len len] wi fun e w' => ∃ ad c, e = .returned (.slice ad n c) ∧ Tk w w' ((wi.heap.size, w'.heap.size, Txs wi.heap.size w'.heap.size (.slice ad n c) M2) :: hs) ∧ wi.heap.size ≤ w'.heap.size :=
  txout_tk (HC _ _ _ F wi hl hs' ((T.get n1 e1).fdrd hF (by unfold maxLen; omega) (T.hi n1 e1))) T hM2 hn
theorem fdsum_eq (F : List Fnd) : fdsum (F.map Fnd.tu) = sumF (fun p => p.text.size) (F.map Fnd.page) := by
  unfold fdsum sumF
  rw [List.map_map, List.map_map]
  rfl
theorem gather_ok {F : List Fnd} {M2 : List (Int × Int × List (Int × Int × Int × Int))} (h1 : F.length ≤ 1048576) (h2 : sumF (fun p => p.text.size) (F.map Fnd.page) ≤ 1048576) (hM2 : (gatherP (F.map Fnd.page)).map TxR.tu = M2) : OkM M2 := by
  obtain ⟨q1, q2⟩ := gather_sum (F.map Fnd.page)
  rw [List.length_map] at q2
  refine OkM.of (by rw [← hM2, List.length_map]; omega) ?_
  rw [← hM2, List.map_map]
  have : ((gatherP (F.map Fnd.page)).map ((fun t => t.2.2.length) ∘ TxR.tu)) = (gatherP (F.map Fnd.page)).map (fun x => x.recs.length) := by
    apply List.map_congr_left
    intro x _
    show (x.recs.map Rc.tu).length = _
    simp
  rw [this]
  omega

set_option maxHeartbeats 1600000 in
set_option maxRecDepth 100000 in
theorem lawGa_of (a : Option Addr) (len cap : Nat) (ls : List (Int × Int × Int × Int × Int × Int × Int × ByteArray)) (w : World) (h : FdRow w a len ls) (HI : GatherC 27) :
    Calls Try.prog 6 #[.slice a len cap] w fun e w' => e = .returned (.bool true) ∧ Below w.heap.size w w' := by
  obtain ⟨F, rfl⟩ := fd_of_tu ls
  have H := hide h
  clear h
  go_enter Try.func6, Try.ntmps6
  go_wp2_with fail
  refine (szFds_any a len cap (F.map Fnd.tu) 1048576 _ (by omega) H.out).mono ?_
  rintro e w0 ⟨⟨r, rfl, r1, r2, r3⟩, b0⟩
  have B0 := hide b0
  clear b0
  by_cases hr : r < 0
  · go_wp2
    go_ret
    exact ⟨rfl, B0.out⟩
  have h3 := r3 (by omega)
  rw [fdsum_eq] at h3
  have hl : len ≤ 1048576 := by omega
  have hF : F.length = len := by have := H.out.1; simpa using this
  have hs : sumF (fun p => p.text.size) (F.map Fnd.page) ≤ 1048576 := by omega
  obtain ⟨M2, hM2⟩ : ∃ M2, (gatherP (F.map Fnd.page)).map TxR.tu = M2 := ⟨_, rfl⟩
  have OK2 := hide (gather_ok (by omega) hs hM2)
  obtain ⟨n, hn⟩ : ∃ n, M2.length = n := ⟨_, rfl⟩
  have HLF := hide hF
  have HL := hide hl
  have CT : Hid (∀ (wi : World) (hs : List Hold), Tk w wi hs → Calls Try.prog 26 #[.slice a len cap] wi fun e w' => ∃ g : Nat, e = .returned (.slice (some ⟨g, 0, none⟩) len len) ∧ Tk w w' ((wi.heap.size, w'.heap.size, Sli 94 wi.heap.size w'.heap.size (.slice (some ⟨g, 0, none⟩) len len) len (fcells F)) :: hs) ∧ wi.heap.size ≤ w'.heap.size) := fun wi hs T => tofd_tk T H.out hl
  have CS : Hid (∀ (wi : World) (hs : List Hold) (g n1 l1 h1 : Nat), Tk w wi hs → hs[n1]? = some (l1, h1, Sli 94 l1 h1 (.slice (some ⟨g, 0, none⟩) len len) len (fcells F)) → Calls Try.prog 25 #[.slice (some ⟨g, 0, none⟩) len len] wi fun e w' => ∃ ad c, e = .returned (.slice ad n c) ∧ Tk w w' ((wi.heap.size, w'.heap.size, Txs wi.heap.size w'.heap.size (.slice ad n c) M2) :: hs) ∧ wi.heap.size ≤ w'.heap.size) := fun wi hs' g n1 l1 h1 T e1 => gather_tk (fun ad len cap M w h1 h2 h3 => sgather ad len cap M w h1 h2 h3) T n1 hF hl hs hM2 hn e1
  have CI : Hid (∀ (wi : World) (hs : List Hold) (g n1 l1 h1 : Nat), Tk w wi hs → hs[n1]? = some (l1, h1, Sli 94 l1 h1 (.slice (some ⟨g, 0, none⟩) len len) len (fcells F)) → Calls Try.prog 27 #[.slice (some ⟨g, 0, none⟩) len len] wi fun e w' => ∃ ad c, e = .returned (.slice ad n c) ∧ Tk w w' ((wi.heap.size, w'.heap.size, Txs wi.heap.size w'.heap.size (.slice ad n c) M2) :: hs) ∧ wi.heap.size ≤ w'.heap.size) := fun wi hs' g n1 l1 h1 T e1 => gather_tk HI T n1 hF hl hs hM2 hn e1
  obtain ⟨m, hm⟩ : ∃ m : Nat, tend 1 M2 = m := ⟨_, rfl⟩
  have HMM := hide hm
  have hm9 : m ≤ 1000000000 := by rw [← hm]; exact OK2.out.2.2
  have HM9 := hide hm9
  have T0 : Hid (Tk w w0 []) := ⟨B0.out, fun _ h => by cases h⟩
  have s0 := B0.out.size
  have m0 : ¬ ((m : Int) < 0) := by omega
  have mm : ((m : Int) != m) = false := by simp
  clear r3 h3 hs hF hM2 hn hm B0 HI H
  go_wp2_with fail
  refine (CT.out _ _ T0.out).mono ?_
  rintro e w1 ⟨g1, rfl, t1, s1⟩
  have T1 := hide t1
  clear t1 T0
  go_wp2_with fail
  refine (CS.out _ _ g1 0 _ _ T1.out rfl).mono ?_
  rintro e w2 ⟨a2, c2, rfl, t2, s2⟩
  have T2 := hide (t2.drop (hs' := [(w1.heap.size, w2.heap.size, Txs w1.heap.size w2.heap.size (.slice a2 n c2) M2)]) (by intro x hx; simp only [List.mem_cons, List.not_mem_nil, or_false] at hx ⊢; exact .inl hx))
  clear t2 T1
  go_wp2_with fail
  refine (CT.out _ _ T2.out).mono ?_
  rintro e w3 ⟨g3, rfl, t3, s3⟩
  have T3 := hide t3
  clear t3 T2
  go_wp2_with fail
  refine (CI.out _ _ g3 0 _ _ T3.out rfl).mono ?_
  rintro e w4 ⟨a4, c4, rfl, t4, s4⟩
  have T4 := hide t4
  clear t4 T3
  go_wp2_with fail
  refine (eqtx_tk T4.out 0 2 OK2.out rfl rfl).mono ?_
  rintro e w5 ⟨rfl, t5, s5⟩
  have T5 := hide t5
  clear t5 T4
  go_wp2_with fail
  refine (CT.out _ _ T5.out).mono ?_
  rintro e w6 ⟨g6, rfl, t6, s6⟩
  have T6 := hide t6
  clear t6 T5
  go_wp2_with fail
  refine (fdeq_tk T6.out 2 0 HLF.out HL.out rfl rfl).mono ?_
  rintro e w7 ⟨rfl, t7, s7⟩
  have T7 := hide t7
  clear t7 T6
  go_wp2_with fail
  refine (fdmark_tk (hs' := [(w3.heap.size, w4.heap.size, Txs w3.heap.size w4.heap.size (.slice a4 n c4) M2), (w1.heap.size, w2.heap.size, Txs w1.heap.size w2.heap.size (.slice a2 n c2) M2)]) T7.out 2 HLF.out HL.out (by omega) rfl (by
    intro x hx
    simp only [List.mem_cons, List.not_mem_nil, or_false] at hx ⊢
    rcases hx with rfl | rfl
    · exact ⟨.inr (.inl rfl), .inr (Nat.le_refl _)⟩
    · exact ⟨.inr (.inr (.inr rfl)), .inl (Nat.le_refl _)⟩)).mono ?_
  rintro e w8 ⟨rfl, t8, s8⟩
  have T8 := hide t8
  clear t8 T7
  obtain ⟨mk, hmk⟩ : ∃ m : Nat, 1 + len * 8 = m := ⟨_, rfl⟩
  rw [hmk]
  have mk0 : ¬ ((mk : Int) < 0) := by omega
  have HMK := hide hmk
  clear hmk
  go_wp2_with fail
  refine (eqtx_tk T8.out 0 1 OK2.out rfl rfl).mono ?_
  rintro e w9 ⟨rfl, t9, s9⟩
  have T9 := hide t9
  clear t9 T8
  go_wp2_with fail
  refine (marktx_tk (hs' := [(w1.heap.size, w2.heap.size, Txs w1.heap.size w2.heap.size (.slice a2 n c2) M2)]) T9.out 0 OK2.out HMM.out (by omega) rfl (by
    intro x hx
    simp only [List.mem_cons, List.not_mem_nil, or_false] at hx ⊢
    subst hx
    exact ⟨.inr rfl, .inl (by simp only; omega)⟩)).mono ?_
  rintro e w10 ⟨rfl, t10, s10⟩
  have T10 := hide t10
  clear t10 T9
  go_wp2_with fail
  refine (heldtx_tk T10.out 0 HM9.out rfl).mono ?_
  rintro e w11 ⟨rfl, t11, s11⟩
  have T11 := hide t11
  clear t11 T10
  go_wp2_with fail
  refine (CT.out _ _ T11.out).mono ?_
  rintro e w12 ⟨g12, rfl, t12, s12⟩
  have T12 := hide t12
  clear t12 T11
  go_wp2_with fail
  refine (CI.out _ _ g12 0 _ _ T12.out rfl).mono ?_
  rintro e w13 ⟨a13, c13, rfl, t13, s13⟩
  have T13 := hide t13
  clear t13 T12
  go_wp2_with fail
  refine (eqtx_tk T13.out 0 3 OK2.out rfl rfl).mono ?_
  rintro e w14 ⟨rfl, t14, s14⟩
  have T14 := hide t14
  clear t14 T13
  go_wp2_with fail
  refine (heldtx_tk T14.out 2 HM9.out rfl).mono ?_
  rintro e w15 ⟨rfl, t15, s15⟩
  have T15 := hide t15
  clear t15 T14
  go_wp2_with fail
  go_ret
  exact ⟨rfl, T15.out.1⟩
end Go.Proofs.Ytmpmdacfibgepag
