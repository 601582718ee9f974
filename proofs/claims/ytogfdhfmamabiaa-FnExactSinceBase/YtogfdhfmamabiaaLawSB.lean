/-
  FnExactSinceBase, of what impl.SinceBase answers.
-/
import Derived.Test.YtogfdhfmamabiaaSSince
import Derived.Test.YtogfdhfmamabiaaTxC
import Derived.Test.YtogfdhfmamabiaaTkTx
namespace Go.Proofs.Ytogfdhfmamabiaa
open Go.RowKit
open Words

theorem since_tk {f : Nat} (HC : SinceC f) {w wi : World} {hs : List Hold} {g len n l1 h1 : Nat} {M M2 : List (Int × Int × List (Int × Int × Int × Int))} {L : List TxR} (T : Tk w wi hs) (n1 : Nat) (ho : OkM M) (hl : M.length = len) (hL : L.map TxR.tu = M) (hM2 : (sinceP L).map TxR.tu = M2) (hn : M2.length = n) (e1 : hs[n1]? = some (l1, h1, Txs l1 h1 (.slice (some ⟨g, 0, none⟩) len len) M)) :
    Calls Try.prog f #[.slice (some ⟨g, 0, none⟩) len len] wi fun e w' => ∃ ad c, e = .returned (.slice ad n c) ∧ Tk w w' ((wi.heap.size, w'.heap.size, Txs wi.heap.size w'.heap.size (.slice ad n c) M2) :: hs) ∧ wi.heap.size ≤ w'.heap.size := by
  obtain ⟨rs, hr, hx⟩ := T.get n1 e1
  have hlr : rs.length = len := by have := congrArg List.length hr; simp only [List.length_map] at this; rw [this, hl]
  refine txout_tk (HC _ _ _ rs L wi (by rw [← hl]; exact ho.1) (Nat.le_refl _) (fun r hr2 => ?_) (by rw [hr, hL]) (hx.rd hlr (T.hi n1 e1))) T hM2 hn
  exact ho.2.1 (xtell r) (by rw [← hr]; exact List.mem_map.2 ⟨r, hr2, rfl⟩)
theorem since_ok {L : List TxR} {M M2 : List (Int × Int × List (Int × Int × Int × Int))} (hL : L.map TxR.tu = M) (h1 : M.length ≤ 1048576) (h2 : (M.map (fun t => t.2.2.length)).sum ≤ 1048576) (hM2 : (sinceP L).map TxR.tu = M2) : OkM M2 := by
  have e : M2 = M.drop (baseAt L L.length) := by rw [← hM2, ← hL, sinceP, List.map_drop]
  have h3 : (M2.map (fun t => t.2.2.length)).sum ≤ (M.map (fun t => t.2.2.length)).sum := by
    rw [e]
    conv => rhs; rw [← List.take_append_drop (baseAt L L.length) M, List.map_append, List.sum_append]
    omega
  exact OkM.of (by rw [e, List.length_drop]; omega) (by omega)

set_option maxHeartbeats 1600000 in
set_option maxRecDepth 100000 in
theorem lawSB_of (a : Option Addr) (len cap : Nat) (rs : List Xw) (w : World) (h : TxRd w a len rs) (HI : SinceC 10) :
    Calls Try.prog 5 #[.slice a len cap] w fun e w' => e = .returned (.bool true) ∧ Below w.heap.size w w' := by
  have H := hide h
  clear h
  go_enter Try.func5, Try.ntmps5
  go_wp2_with fail
  refine (szTxs_any a len cap rs 1048576 _ (by omega) H.out).mono ?_
  rintro e w0 ⟨⟨r, rfl, r1, r2, r3⟩, b0⟩
  have B0 := hide b0
  clear b0
  by_cases hr : r < 0
  · go_wp2
    go_ret
    exact ⟨rfl, B0.out⟩
  have h3 := r3 (by omega)
  have hl : len ≤ 1048576 := by omega
  obtain ⟨M, hM⟩ : ∃ M, rs.map xtell = M := ⟨_, rfl⟩
  obtain ⟨L, hL⟩ := tx_of_tu M
  have hMl : M.length = len := by rw [← hM, List.length_map]; exact H.out.1
  have hsum : (M.map (fun t => t.2.2.length)).sum = xsum rs := by rw [← hM, List.map_map]; rfl
  have OK := hide (OkM.of (M := M) (by omega) (by omega))
  obtain ⟨M2, hM2⟩ : ∃ M2, (sinceP L).map TxR.tu = M2 := ⟨_, rfl⟩
  have OK2 := hide (since_ok hL (by omega) (by omega) hM2)
  obtain ⟨n, hn⟩ : ∃ n, M2.length = n := ⟨_, rfl⟩
  have hll : ∀ r ∈ rs, r.2.2.2.length ≤ 1048576 := fun r hr2 => OK.out.2.1 (xtell r) (by rw [← hM]; exact List.mem_map.2 ⟨r, hr2, rfl⟩)
  have CT : Hid (∀ (wi : World) (hs : List Hold), Tk w wi hs → Calls Try.prog 17 #[.slice a len cap] wi fun e w' => ∃ g : Nat, e = .returned (.slice (some ⟨g, 0, none⟩) len len) ∧ Tk w w' ((wi.heap.size, w'.heap.size, Txs wi.heap.size w'.heap.size (.slice (some ⟨g, 0, none⟩) len len) M) :: hs) ∧ wi.heap.size ≤ w'.heap.size) := fun wi hs T => totx_tk T H.out hl hll hM
  have CS : Hid (∀ (wi : World) (hs : List Hold) (g n1 l1 h1 : Nat), Tk w wi hs → hs[n1]? = some (l1, h1, Txs l1 h1 (.slice (some ⟨g, 0, none⟩) len len) M) → Calls Try.prog 16 #[.slice (some ⟨g, 0, none⟩) len len] wi fun e w' => ∃ ad c, e = .returned (.slice ad n c) ∧ Tk w w' ((wi.heap.size, w'.heap.size, Txs wi.heap.size w'.heap.size (.slice ad n c) M2) :: hs) ∧ wi.heap.size ≤ w'.heap.size) := fun wi hs g n1 l1 h1 T e1 => since_tk (fun ad len cap rs L w h1 _ h2 h3 h4 => ssince ad len cap rs L w h1 h2 h3 h4) T n1 OK.out hMl hL hM2 hn e1
  have CI : Hid (∀ (wi : World) (hs : List Hold) (g n1 l1 h1 : Nat), Tk w wi hs → hs[n1]? = some (l1, h1, Txs l1 h1 (.slice (some ⟨g, 0, none⟩) len len) M) → Calls Try.prog 10 #[.slice (some ⟨g, 0, none⟩) len len] wi fun e w' => ∃ ad c, e = .returned (.slice ad n c) ∧ Tk w w' ((wi.heap.size, w'.heap.size, Txs wi.heap.size w'.heap.size (.slice ad n c) M2) :: hs) ∧ wi.heap.size ≤ w'.heap.size) := fun wi hs g n1 l1 h1 T e1 => since_tk HI T n1 OK.out hMl hL hM2 hn e1
  obtain ⟨mk, hmk⟩ : ∃ m : Nat, tend 1 M = m := ⟨_, rfl⟩
  obtain ⟨m, hm⟩ : ∃ m : Nat, tend 1 M2 = m := ⟨_, rfl⟩
  have HMK := hide hmk
  have HMM := hide hm
  have hm9 : m ≤ 1000000000 := by rw [← hm]; exact OK2.out.2.2
  have HM9 := hide hm9
  have T0 : Hid (Tk w w0 []) := ⟨B0.out, fun _ h => by cases h⟩
  have s0 := B0.out.size
  have mk0 : ¬ ((mk : Int) < 0) := by omega
  have m0 : ¬ ((m : Int) < 0) := by omega
  have mm : ((m : Int) != m) = false := by simp
  clear r3 h3 hM hL hMl hsum hM2 hn hll hmk hm B0 HI H
  go_wp2_with fail
  refine (CT.out _ _ T0.out).mono ?_
  rintro e w1 ⟨g1, rfl, t1, s1⟩
  have T1 := hide t1
  clear t1 T0
  go_wp2_with fail
  refine (CS.out _ _ g1 0 _ _ T1.out rfl).mono ?_
  rintro e w2 ⟨a2, c2, rfl, t2, s2⟩
  have T2 := hide (t2.drop (hs' := [(w1.heap.size, w2.heap.size, Txs w1.heap.size w2.heap.size (.slice a2 n c2) M2)]) (by intro x hx; simp only [List.mem_cons, List.not_mem_nil, or_false] at hx ⊢; exact .inl hx))
  clear t2 T1
  go_wp2_with fail
  refine (CT.out _ _ T2.out).mono ?_
  rintro e w3 ⟨g3, rfl, t3, s3⟩
  have T3 := hide t3
  clear t3 T2
  go_wp2_with fail
  refine (CI.out _ _ g3 0 _ _ T3.out rfl).mono ?_
  rintro e w4 ⟨a4, c4, rfl, t4, s4⟩
  have T4 := hide t4
  clear t4 T3
  go_wp2_with fail
  refine (eqtx_tk T4.out 0 2 OK2.out rfl rfl).mono ?_
  rintro e w5 ⟨rfl, t5, s5⟩
  have T5 := hide t5
  clear t5 T4
  go_wp2_with fail
  refine (CT.out _ _ T5.out).mono ?_
  rintro e w6 ⟨g6, rfl, t6, s6⟩
  have T6 := hide t6
  clear t6 T5
  go_wp2_with fail
  refine (eqtx_tk T6.out 2 0 OK.out rfl rfl).mono ?_
  rintro e w7 ⟨rfl, t7, s7⟩
  have T7 := hide t7
  clear t7 T6
  go_wp2_with fail
  refine (marktx_sp (hs' := [(w3.heap.size, w4.heap.size, Txs w3.heap.size w4.heap.size (.slice a4 n c4) M2), (w1.heap.size, w2.heap.size, Txs w1.heap.size w2.heap.size (.slice a2 n c2) M2)]) T7.out 2 OK.out HMK.out (by omega) rfl (by
    intro x hx
    simp only [List.mem_cons, List.not_mem_nil, or_false] at hx ⊢
    rcases hx with rfl | rfl
    · exact ⟨.inr (.inl rfl), .inr (Nat.le_refl _)⟩
    · exact ⟨.inr (.inr (.inr rfl)), .inl (Nat.le_refl _)⟩)).mono ?_
  rintro e w8 ⟨rfl, t8, s8⟩
  have T8 := hide t8
  clear t8 T7
  go_wp2_with fail
  refine (eqtx_tk T8.out 0 1 OK2.out rfl rfl).mono ?_
  rintro e w9 ⟨rfl, t9, s9⟩
  have T9 := hide t9
  clear t9 T8
  go_wp2_with fail
  refine (marktx_tk (hs' := [(w1.heap.size, w2.heap.size, Txs w1.heap.size w2.heap.size (.slice a2 n c2) M2)]) T9.out 0 OK2.out HMM.out (by omega) rfl (by
    intro x hx
    simp only [List.mem_cons, List.not_mem_nil, or_false] at hx ⊢
    subst hx
    exact ⟨.inr rfl, .inl (by simp only; omega)⟩)).mono ?_
  rintro e w10 ⟨rfl, t10, s10⟩
  have T10 := hide t10
  clear t10 T9
  go_wp2_with fail
  refine (heldtx_tk T10.out 0 HM9.out rfl).mono ?_
  rintro e w11 ⟨rfl, t11, s11⟩
  have T11 := hide t11
  clear t11 T10
  go_wp2_with fail
  refine (CT.out _ _ T11.out).mono ?_
  rintro e w12 ⟨g12, rfl, t12, s12⟩
  have T12 := hide t12
  clear t12 T11
  go_wp2_with fail
  refine (CI.out _ _ g12 0 _ _ T12.out rfl).mono ?_
  rintro e w13 ⟨a13, c13, rfl, t13, s13⟩
  have T13 := hide t13
  clear t13 T12
  go_wp2_with fail
  refine (eqtx_tk T13.out 0 3 OK2.out rfl rfl).mono ?_
  rintro e w14 ⟨rfl, t14, s14⟩
  have T14 := hide t14
  clear t14 T13
  go_wp2_with fail
  refine (heldtx_tk T14.out 2 HM9.out rfl).mono ?_
  rintro e w15 ⟨rfl, t15, s15⟩
  have T15 := hide t15
  clear t15 T14
  go_wp2_with fail
  go_ret
  exact ⟨rfl, T15.out.1⟩
end Go.Proofs.Ytogfdhfmamabiaa
