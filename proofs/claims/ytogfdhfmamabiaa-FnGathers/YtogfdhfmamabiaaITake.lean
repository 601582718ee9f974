/-
  impl's partsByTx: take.
-/
import Derived.Test.YtogfdhfmamabiaaIJoin
import Derived.Test.YtogfdhfmamabiaaIBegin
import Derived.Test.YtogfdhfmamabiaaTxMath3
import Derived.Test.YtogfdhfmamabiaaPk9
namespace Go.Proofs.Ytogfdhfmamabiaa
open Go.RowKit
open Words

theorem PM.cell {lo B g : Nat} {W : World} {G : Gm} (h : PM lo W B G) {cs : Array Value} {t : TypeId} (hg : W.heap[g]? = some (.cells cs t (0, 0))) (j : Nat) (v : Value) : PM lo (W.setCell ⟨g, j, none⟩ v) B G :=
  h.grown (grown_cell W g j v) (fun g' e => by cases e; exact ⟨_, _, _, hg⟩)
theorem PM.set3 {lo B g : Nat} {W : World} {G : Gm} (h : PM lo W B G) {cs : Array Value} {t : TypeId} (hg : W.heap[g]? = some (.cells cs t (0, 0))) (x y z : Value) : PM lo (((W.setCell ⟨g, 0, none⟩ x).setCell ⟨g, 1, none⟩ y).setCell ⟨g, 2, none⟩ z) B G :=
  ((h.cell hg 0 x).cell (row_set hg 0 x) 1 y).cell (row_set (row_set hg 0 x) 1 y) 2 z
theorem kept_cellT {a W : World} {ok : Nat → Prop} {g : Nat} (h : Kept2 a W ok) (hg : a.heap.size ≤ g) (j : Nat) (v : Value) : Kept2 a (W.setCell ⟨g, j, none⟩ v) ok := by
  obtain ⟨h1, h2, h3, h4, h5⟩ := h
  refine ⟨h1, h2, h3, by simpa [World.setCell] using h4, fun i hi ho => ?_⟩
  exact (Below.heap_setCell _ _ _ _ (by simp only; omega)).trans (h5 i hi ho)
theorem kept_set3 {a W : World} {ok : Nat → Prop} {g : Nat} (h : Kept2 a W ok) (hg : a.heap.size ≤ g) (x y z : Value) : Kept2 a (((W.setCell ⟨g, 0, none⟩ x).setCell ⟨g, 1, none⟩ y).setCell ⟨g, 2, none⟩ z) ok :=
  kept_cellT (kept_cellT (kept_cellT h hg 0 x) hg 1 y) hg 2 z
theorem sli_set3 {t : TypeId} {lo hi n g : Nat} {v : Value} {xs : List Value} {W : World} (h : Sli t lo hi v n xs W) (hg : g < lo) (x y z : Value) : Sli t lo (((W.setCell ⟨g, 0, none⟩ x).setCell ⟨g, 1, none⟩ y).setCell ⟨g, 2, none⟩ z).heap.size v n xs (((W.setCell ⟨g, 0, none⟩ x).setCell ⟨g, 1, none⟩ y).setCell ⟨g, 2, none⟩ z) ∨ ¬ hi ≤ W.heap.size := by
  by_cases hh : hi ≤ W.heap.size
  · left
    have e : (((W.setCell ⟨g, 0, none⟩ x).setCell ⟨g, 1, none⟩ y).setCell ⟨g, 2, none⟩ z).heap.size = W.heap.size := by simp [World.setCell]
    rw [e]
    have f : ∀ g', v.ownBlock = some g' → some g ≠ some g' := fun g' e e2 => by
      have := (h.lt g' e).1
      have := Option.some.inj e2
      omega
    exact (((h.grown (grown_cell _ g 0 x) f).grown (grown_cell _ g 1 y) f).grown (grown_cell _ g 2 z) f).up hh
  · right; exact hh
/-- What take answers. -/
def TkOut (lo B : Nat) (ps : List Pg) (S : List Int) (x : Int) (w : World) (e : Ending) (w' : World) : Prop :=
  ∃ G', PM lo w' B G' ∧ OutT ps (S ++ [x]) G' ∧ Kept2 w w' (· ≠ B) ∧
    ((tookP ps (S ++ [x]) = tookP ps S ∧ e = .returned (.tuple #[.agg #[.int .i64 0, .int .i64 0, .slice none 0 0], .bool false])) ∨
     ∃ (t : TxR) (a : Option Addr) (n c : Nat), tookP ps (S ++ [x]) = tookP ps S ++ [t] ∧ n = t.recs.length ∧ n ≤ maxLen ∧ e = .returned (.tuple #[.agg #[.int .i64 t.num, .int .i64 t.seq, .slice a n c], .bool true]) ∧ Sli 34 w.heap.size w'.heap.size (.slice a n c) n (rccells (t.recs.map Rc.tu)) w')
theorem sumL_cat (l : List Pg) : (catP l).size = sumLP l := by
  show (l.flatMap (fun p => p.text.data.toList)).toArray.size = _
  rw [List.size_toArray, List.length_flatMap]
  rfl
theorem szTx_le (tx : Int) (ps : List Pg) : sumF (szTxP tx) ps ≤ sumF (fun p => p.text.size) ps := by
  unfold sumF
  induction ps with
  | nil => simp
  | cons p ps ih =>
    simp only [List.map_cons, List.sum_cons]
    have : szTxP tx p ≤ p.text.size := by unfold szTxP; split <;> omega
    omega

set_option maxHeartbeats 2000000 in
set_option maxRecDepth 100000 in
theorem itake (lo B : Nat) (G : Gm) (ps : List Pg) (S : List Int) (x : Int) (w : World) (h : PM lo w B G) (ho : OutT ps S G) (hs : sumF (fun p => p.text.size) ps ≤ 1048576) (hl : ps.length ≤ 1048576) :
    Calls Try.prog 24 #[.map (some B), .int .i64 x] w (TkOut lo B ps S x w) := by
  have bA : Below w.heap.size w (w.alloc (.cells #[.int .i64 0, .int .i64 0, .slice none 0 0] 31)) := (Below.refl _ _).alloc (Nat.le_refl _) _
  have P1 := hide (h.below bA)
  have K1 : Hid (Kept2 w (w.alloc (.cells #[.int .i64 0, .int .i64 0, .slice none 0 0] 31)) (· ≠ B)) := Kept2.below bA
  have R1 : Hid ((w.alloc (.cells #[.int .i64 0, .int .i64 0, .slice none 0 0] 31)).heap[w.heap.size]? = some (.cells #[.int .i64 0, .int .i64 0, .slice none 0 0] 31 (0, 0))) := heap_alloc_new w _
  have HZ : Hid ((w.alloc (.cells #[.int .i64 0, .int .i64 0, .slice none 0 0] 31)).heap.size = w.heap.size + 1) := by show _ = _; simp
  have HO := hide ho
  have HBL := hide h.2.1.lt
  clear bA ho
  cases hg : at? G x with
  | none =>
    have hn := HO.out.none hg
    have O1 := hide (HO.out.stay hn)
    have T1 : Hid (tookP ps (S ++ [x]) = tookP ps S) := took_no (hn.imp one_no id)
    have CI := hide (iwhole0 lo B G x _ P1.out hg)
    clear hn hg h hs
    go_enter Try.func24, Try.ntmps24
    go_wp2_with fail
    generalize w.alloc (.cells #[.int .i64 0, .int .i64 0, .slice none 0 0] 31) = w1 at P1 K1 R1 HZ CI ⊢
    refine CI.out.mono ?_
    rintro e w2 ⟨rfl, rfl⟩
    clear CI
    have b0 := cell_of_row _ _ 0 _ _ _ R1.out
    have b1 := cell_of_row _ _ 1 _ _ _ R1.out
    have b2 := cell_of_row _ _ 2 _ _ _ R1.out
    have f0 := frozen_of_row _ _ 0 _ _ R1.out
    have f1 := frozen_of_row _ _ 1 _ _ R1.out
    have f2 := frozen_of_row _ _ 2 _ _ R1.out
    go_wp2
    exact bodyPost_ret (results_tx2 rfl _ _ w.heap.size 0 0 (.slice none 0 0) rfl (tx_set3 R1.out)) rfl ⟨G, P1.out.set3 R1.out _ _ _, O1.out, kept_set3 K1.out (Nat.le_refl _) _ _ _, .inl ⟨T1.out, rfl⟩⟩
  | some bl =>
    obtain ⟨b, l⟩ := bl
    obtain ⟨p, hp, hP, hnot⟩ := HO.out.some hg
    have CI := hide (iwhole1 lo B G x b l p _ P1.out hg hP.zero)
    by_cases hw : (l.length : Int) = if p.count < 1 then 1 else p.count
    · rw [decide_eq_true hw] at CI
      obtain ⟨L, q1, q2, q3⟩ := hP.whole hp hw
      have hx : ¬ x ∈ S := fun hm => hnot ⟨hm, by rw [q1]; simp⟩
      have O1 := hide (HO.out.take (tx := x) (by rw [q1]; simp))
      have hsz : (catP (p :: L)).size ≤ 1048576 := by
        rw [sumL_cat]
        have := partsP_sum q1
        have := szTx_le x ps
        omega
      have OT : Hid (oneTx ps x = (recs (catP (p :: L)).data.toList 0).map (fun rs => ⟨x, least (p :: L), rs⟩)) := one_of_parts q1
      have CJ : Hid (∀ W, MapI W b (inL l) → Calls Try.prog 45 #[.int .i64 x, .map (some b)] W (JoOut W x (p :: L))) := fun W hW => ijoined x b l p L W hW hP.zero q3 (by simp only [List.length_cons]; exact q2) (by have := hP.few; omega) hsz
      have HX := hide hx
      have hlk := P1.out.look x false
      rw [hg] at hlk
      simp only [Option.map_some, Option.getD_some, Bool.false_eq_true, if_false, outV] at hlk
      have MB := hide (P1.out.at hg)
      clear hw hP hp hnot q1 q2 q3 hx hsz hg h
      go_enter Try.func24, Try.ntmps24
      go_wp2_with fail
      generalize w.alloc (.cells #[.int .i64 0, .int .i64 0, .slice none 0 0] 31) = w1 at P1 K1 R1 HZ CI MB hlk ⊢
      refine CI.out.mono ?_
      rintro e w2 ⟨rfl, rfl⟩
      clear CI
      go_wp2_with (at_delete; refine wpList_delI _ rfl _ _ 53 3 rfl 82 tyPP Try.underlying3 B (outL G) rfl P1.out.2.1 x rfl ?_)
      intro w3 hm3 hg3 hz3
      have P3 := hide (P1.out.cut hm3 hg3).1
      have M3 := hide (MB.out.2.2.grown hg3 (fun e => MB.out.2.1 (Option.some.inj e)))
      have K3 : Hid (Kept2 w w3 (· ≠ B)) := K1.out.trans (Kept2.grown hg3 (fun j hj => by cases hj; simp))
      have R3 : Hid (w3.heap[w.heap.size]? = some (.cells #[.int .i64 0, .int .i64 0, .slice none 0 0] 31 (0, 0))) := (hg3.block _ (by have := HZ.out; omega) (fun e => by have := Option.some.inj e; have := HBL.out; omega)).trans R1.out
      have Z3 : Hid (w3.heap.size = w.heap.size + 1) := by show _ = _; rw [hz3]; exact HZ.out
      clear hm3 hg3 hz3 P1 K1 R1 HZ MB hlk
      go_wp2_with fail
      refine (CJ.out w3 M3.out).mono ?_
      rintro e w4 ⟨b4, hj⟩
      have P4 := hide (P3.out.below b4)
      have K4 : Hid (Kept2 w w4 (· ≠ B)) := K3.out.trans (Kept2.below b4)
      have R4 := hide ((b4.block _ (by have := Z3.out; omega)).trans R3.out)
      have b0 := cell_of_row _ _ 0 _ _ _ R4.out
      have b1 := cell_of_row _ _ 1 _ _ _ R4.out
      have b2 := cell_of_row _ _ 2 _ _ _ R4.out
      have f0 := frozen_of_row _ _ 0 _ _ R4.out
      have f1 := frozen_of_row _ _ 1 _ _ R4.out
      have f2 := frozen_of_row _ _ 2 _ _ R4.out
      rcases hj with ⟨hr, rfl⟩ | ⟨rs, a, n, c, hr, hn, hnm, rfl, hS⟩
      · have T1 : Hid (tookP ps (S ++ [x]) = tookP ps S) := took_no (.inl (by rw [OT.out, hr]; rfl))
        clear hr b4 P3 M3 K3 R3 CJ OT
        go_wp2
        exact bodyPost_ret (results_tx2 rfl _ _ w.heap.size 0 0 (.slice none 0 0) rfl (tx_set3 R4.out)) rfl ⟨_, P4.out.set3 R4.out _ _ _, O1.out, kept_set3 K4.out (Nat.le_refl _) _ _ _, .inl ⟨T1.out, rfl⟩⟩
      · have T1 : Hid (tookP ps (S ++ [x]) = tookP ps S ++ [⟨x, least (p :: L), rs⟩]) := took_yes (by rw [OT.out, hr]; rfl) HX.out
        have SS := hide hS
        have HNR := hide hn
        have HNM := hide hnm
        clear hr b4 P3 M3 K3 R3 CJ OT hS hn hnm
        go_wp2
        refine bodyPost_ret (results_tx2 rfl _ _ w.heap.size x (least (p :: L)) (.slice a n c) rfl (tx_set3 R4.out)) rfl ⟨_, P4.out.set3 R4.out _ _ _, O1.out, kept_set3 K4.out (Nat.le_refl _) _ _ _, .inr ⟨⟨x, least (p :: L), rs⟩, a, n, c, T1.out, HNR.out, HNM.out, rfl, ?_⟩⟩
        rcases sli_set3 SS.out (g := w.heap.size) (by have := Z3.out; omega) (.int .i64 x) (.int .i64 (least (p :: L))) (.slice a n c) with q | q
        · exact q.dn (by have := Z3.out; omega)
        · exact absurd (Nat.le_refl _) q
    · rw [decide_eq_false hw] at CI
      have hpn := hP.lack hp hw
      have O1 := hide (HO.out.stay (.inl hpn))
      have T1 : Hid (tookP ps (S ++ [x]) = tookP ps S) := took_no (.inl (one_no hpn))
      clear hw hP hp hnot hpn hg h
      go_enter Try.func24, Try.ntmps24
      go_wp2_with fail
      generalize w.alloc (.cells #[.int .i64 0, .int .i64 0, .slice none 0 0] 31) = w1 at P1 K1 R1 HZ CI ⊢
      refine CI.out.mono ?_
      rintro e w2 ⟨rfl, rfl⟩
      clear CI
      have b0 := cell_of_row _ _ 0 _ _ _ R1.out
      have b1 := cell_of_row _ _ 1 _ _ _ R1.out
      have b2 := cell_of_row _ _ 2 _ _ _ R1.out
      have f0 := frozen_of_row _ _ 0 _ _ R1.out
      have f1 := frozen_of_row _ _ 1 _ _ R1.out
      have f2 := frozen_of_row _ _ 2 _ _ R1.out
      go_wp2
      exact bodyPost_ret (results_tx2 rfl _ _ w.heap.size 0 0 (.slice none 0 0) rfl (tx_set3 R1.out)) rfl ⟨G, P1.out.set3 R1.out _ _ _, O1.out, kept_set3 K1.out (Nat.le_refl _) _ _ _, .inl ⟨T1.out, rfl⟩⟩
end Go.Proofs.Ytogfdhfmamabiaa
