/-
  MkVl; MkSto; EqVl; ToVlS
-/
import Derived.Test.YtfmnaidhfgmemaaGreatDoorPk0
import Derived.Deep.DeepCutAuto
import Derived.Deep.RegionHeld3
import Derived.Test.YtfmnaidhfgmemaaGreatDoorPk38
import Derived.Test.YtfmnaidhfgmemaaGreatDoorPk1
import Derived.Test.YtfmnaidhfgmemaaGreatDoorPk5
namespace Go.Proofs.YtfmnaidhfgmemaaGreatDoor
open Go.RowKit
def patVl : List Bool := [false, false]
set_option maxHeartbeats 2000000 in
set_option maxRecDepth 100000 in
theorem markVl_any (lo hi : Nat) (a : Value) (n k0 : Nat) (xs : List Value) (w : World) (hn : n ≤ 1000000000) (hxs : xs.length = n * 2) (hk0 : 0 < k0) (hk1 : k0 ≤ 100000000000) (hh : hi ≤ w.heap.size) (ha : Sli 97 lo hi a n xs w) :
    Calls Tryz.prog 55 #[a, .int .i64 (k0 : Int)] w fun e w' => e = .returned (.int .i64 ((k0 + n * 2 : Nat) : Int)) ∧ Hid (Sli 97 lo hi a n (mkFlat patVl k0 n) w') ∧ Hid (Kept2 w w' (Apt lo hi)) := by
  obtain ⟨ad, ca, rfl, a3⟩ := ha.form
  have A3 := hide a3
  obtain ⟨M, hM⟩ : ∃ M, mkFlat patVl k0 n = M := ⟨_, rfl⟩
  have HML : Hid (M.length = xs.length) := by show _ = _; rw [← hM, mkFlat_len, hxs]; rfl
  have HMA : Hid (∀ (i j : Nat) (s : Bool), i < n → patVl[j]? = some s → M[i * 2 + j]? = some (mkv s (k0 + (i * 2 + j)))) := by
    intro i j s h1 h2
    rw [← hM]
    exact mkFlat_at patVl k0 n i j s h1 h2
  have HXS := hide hxs
  have HA := hide ha
  have F00 : Hid (∀ g, ad = some ⟨g, 0, none⟩ → Flt 97 g (M.take (0 * 2) ++ xs.drop (0 * 2)) w) := by
    rintro g rfl
    have := ha.flt
    simpa using this
  rw [hM]
  clear ha a3 hxs hM
  go_enter Tryz.func55, Tryz.ntmps55
  go_wp2
  go_loopw [1, 5] (fun mv iv wr => ∃ i m : Nat, i ≤ n ∧ iv = .int .i64 i ∧ mv = .int .i64 m ∧ m ≤ 200000000000 ∧ Hid (m = k0 + i * 2) ∧ Hid (∀ g, ad = some ⟨g, 0, none⟩ → Flt 97 g (M.take (i * 2) ++ xs.drop (i * 2)) wr) ∧ Hid (Kept2 w wr (Apt lo hi))) (fun _ iv _ => n - (intOf iv).toNat)
  case atStart => exact ⟨0, k0, Nat.zero_le _, rfl, rfl, by omega, (by show _ = _; omega), F00, Kept2.refl _ _⟩
  case round =>
    obtain ⟨i, m, hin, rfl, rfl, hm, HM, HF, HK⟩ := hrel
    clear F00
    by_cases hlt : (i : Int) < n
    · obtain ⟨g, e, g1, g2⟩ := A3.out (by omega)
      subst e
      have i0 : (0 : Int) ≤ i := by omega
      have F0 := hide (HF.out g rfl)
      have K0 := hide HK.out
      have hwz := HK.out.2.2.2.1
      have hm2 : m + 2 ≤ 200000000000 := by have := HM.out; omega
      have hm1 : 0 < m := by have := HM.out; omega
      have Q0 : Hid (hi ≤ wr.heap.size) := (by show _ ≤ _; omega)
      obtain ⟨m1, e1⟩ : ∃ m1 : Nat, m1 = m + 1 := ⟨_, rfl⟩
      have ei1 : (m : Int) + 1 = m1 := by omega
      have E1 := hide e1
      clear e1
      obtain ⟨m2, e2⟩ : ∃ m2 : Nat, m2 = m + 2 := ⟨_, rfl⟩
      have ei2 : (m1 : Int) + 1 = m2 := by omega
      have E2 := hide e2
      clear e2
      clear HF HK hwz
      obtain ⟨u0, hu0⟩ : ∃ u, xs[i * 2]? = some u := ⟨_, List.getElem?_eq_getElem (by have := HXS.out; omega)⟩
      have c0 : wr.cell? ⟨g, i * 2, none⟩ = some u0 := F0.out.old hu0 HML.out
      have f0 := F0.out.frozen (i * 2)
      have F1 : Hid (Flt 97 g (M.take (i * 2 + 1) ++ xs.drop (i * 2 + 1)) (wr.setCell ⟨g, i * 2, none⟩ (.int .i64 (m : Int)))) := by
        refine F0.out.step ?_ HML.out
        have h1 := HMA.out i 0 false (by omega) rfl
        rw [show k0 + (i * 2 + 0) = m by have := HM.out; omega] at h1
        exact h1
      have K1 : Hid (Kept2 w (wr.setCell ⟨g, i * 2, none⟩ (.int .i64 (m : Int))) (Apt lo hi)) := K0.out.trans ⟨rfl, rfl, rfl, by simp, fun q _ hne => Below.heap_setCell _ _ _ _ (fun (e : q = g) => hne ⟨by omega, by omega⟩)⟩
      have Q1 : Hid (hi ≤ (wr.setCell ⟨g, i * 2, none⟩ (.int .i64 (m : Int))).heap.size) := (by show _ ≤ _; simp only [World.setCell, Array.size_modify]; exact Q0.out)
      clear F0 K0 Q0 hu0
      go_upto_region 6 with fail
      clear c0 f0
      generalize wr.setCell ⟨g, i * 2, none⟩ (.int .i64 (m : Int)) = x0 at F1 K1 Q1 ⊢
      obtain ⟨u1, hu1⟩ : ∃ u, xs[i * 2 + 1]? = some u := ⟨_, List.getElem?_eq_getElem (by have := HXS.out; omega)⟩
      have c1 : x0.cell? ⟨g, i * 2 + 1, none⟩ = some u1 := F1.out.old hu1 HML.out
      have f1 := F1.out.frozen (i * 2 + 1)
      have F2 : Hid (Flt 97 g (M.take (i * 2 + 1 + 1) ++ xs.drop (i * 2 + 1 + 1)) (x0.setCell ⟨g, i * 2 + 1, none⟩ (.int .i64 (m1 : Int)))) := by
        refine F1.out.step ?_ HML.out
        have h1 := HMA.out i 1 false (by omega) rfl
        rw [show k0 + (i * 2 + 1) = m1 by have := HM.out; have := E1.out; omega] at h1
        exact h1
      have K2 : Hid (Kept2 w (x0.setCell ⟨g, i * 2 + 1, none⟩ (.int .i64 (m1 : Int))) (Apt lo hi)) := K1.out.trans ⟨rfl, rfl, rfl, by simp, fun q _ hne => Below.heap_setCell _ _ _ _ (fun (e : q = g) => hne ⟨by omega, by omega⟩)⟩
      have Q2 : Hid (hi ≤ (x0.setCell ⟨g, i * 2 + 1, none⟩ (.int .i64 (m1 : Int))).heap.size) := (by show _ ≤ _; simp only [World.setCell, Array.size_modify]; exact Q1.out)
      clear F1 K1 Q1 hu1
      have FE : Hid (∀ g', some (⟨g, 0, none⟩ : Addr) = some ⟨g', 0, none⟩ → Flt 97 g' (M.take ((i + 1) * 2) ++ xs.drop ((i + 1) * 2)) (x0.setCell ⟨g, i * 2 + 1, none⟩ (.int .i64 (m1 : Int)))) := by
        intro g' e
        injection e with e
        injection e with e
        subst e
        have := F2.out
        rw [show i * 2 + 1 + 1 = (i + 1) * 2 by omega] at this
        exact this
      clear F2 Q2
      go_wp2
      clear c1 f1
      go_roundw
      case rel => exact ⟨i + 1, m2, by omega, by go_num, rfl, (by have := E2.out; omega), (by show _ = _; have := E2.out; have := HM.out; omega), FE, K2⟩
      case measure => simp [intOf]; omega
    · have hi2 : i = n := by omega
      subst hi2
      have R : Hid (Sli 97 lo hi (.slice ad i ca) i M wr) := by
        rcases HA.out with ⟨h1, h2⟩ | ⟨g, cap, h1, h2, h3, -⟩
        · exact Or.inl ⟨h1, h2⟩
        · injection h1 with e1 e2 e3
          subst e1 e3
          have h4 := HF.out g rfl
          rw [List.take_of_length_le (by have := HML.out; have := HXS.out; omega), List.drop_of_length_le (by have := HXS.out; omega), List.append_nil] at h4
          exact Or.inr ⟨g, ca, rfl, h2, h3, h4⟩
      have HE : Hid ((m : Int) = ((k0 + i * 2 : Nat) : Int)) := (by show _ = _; rw [HM.out])
      clear HF
      go_wp2
      go_ret
      exact ⟨congrArg (fun x => Ending.returned (.int .i64 x)) HE.out, R, HK⟩
end Go.Proofs.YtfmnaidhfgmemaaGreatDoor

namespace Go.Proofs.YtfmnaidhfgmemaaGreatDoor
open Go.RowKit
open Words
end Go.Proofs.YtfmnaidhfgmemaaGreatDoor

namespace Go.Proofs.YtfmnaidhfgmemaaGreatDoor
open Go.RowKit
set_option maxHeartbeats 400000 in
set_option maxRecDepth 100000 in
theorem toVl_any (x0 : Int) (x1 : Int) (w : World) :
    Calls Tryz.prog 72 #[.agg #[.int .i64 x0, .int .i64 x1]] w fun e w' => e = .returned (.agg #[.int .i64 x0, .int .i64 x1]) ∧ Below w.heap.size w w' := by
  go_enter Tryz.func72, Tryz.ntmps72
  go_wp2
  have h1 := heap_alloc_new (w.alloc (.cells #[.int .i64 x0, .int .i64 x1] 140)) (.cells #[.int .i64 x0, .int .i64 x1] 97)
  have hs : (w.alloc (.cells #[.int .i64 x0, .int .i64 x1] 140)).heap.size = w.heap.size + 1 := by simp
  rw [hs] at h1
  have h2 := (Below.heap_alloc ((w.alloc (.cells #[.int .i64 x0, .int .i64 x1] 140)).alloc (.cells #[.int .i64 x0, .int .i64 x1] 97)) (.cells #[.int .i64 x0, .int .i64 x1] 97) (w.heap.size + 1) (by simp)).trans h1
  exact bodyPost_ret (results_cell_row rfl _ _ (w.heap.size + 1) 97 _ (0, 0) _ rfl h2 Tryz.underlying97 rfl infoVlz) rfl ⟨rfl, (((Below.refl _ _).alloc (Nat.le_refl _) _).alloc (by simp) _).alloc (by simp; omega) _⟩
set_option maxHeartbeats 400000 in
set_option maxRecDepth 100000 in
theorem eqVl_same (x0 : Int) (x1 : Int) (w : World) :
    Calls Tryz.prog 81 #[.agg #[.int .i64 x0, .int .i64 x1], .agg #[.int .i64 x0, .int .i64 x1]] w fun e w' => e = .returned (.bool true) ∧ Below w.heap.size w w' := by
  have e0 : (x0 != x0) = false := by simp
  have e1 : (x1 != x1) = false := by simp
  go_enter Tryz.func81, Tryz.ntmps81
  go_wp2
  go_ret
  exact ⟨rfl, ((Below.refl _ _).alloc (Nat.le_refl _) _).alloc (by simp) _⟩
set_option maxHeartbeats 1000000 in
set_option maxRecDepth 100000 in
theorem eqVls_same (a b : Value) (M : List (Int × Int)) (B1 C1 B2 C2 : Nat) (w : World) (hM : M.length ≤ 1000000000000000000) (ha : Sli 97 B1 C1 a M.length (vlcells M) w) (hb : Sli 97 B2 C2 b M.length (vlcells M) w) :
    Calls Tryz.prog 52 #[a, b] w fun e w' => e = .returned (.bool true) ∧ Below w.heap.size w w' := by
  obtain ⟨ad, capa, rfl, a3⟩ := ha.form
  obtain ⟨bd, capb, rfl, b3⟩ := hb.form
  obtain ⟨n, hn⟩ : ∃ n, M.length = n := ⟨_, rfl⟩
  have HN := hide hn
  have HSA := hide ha
  have HSB := hide hb
  rw [hn] at hM a3 b3 HSA HSB ⊢
  have A3 := hide a3
  have B3 := hide b3
  clear a3 b3 ha hb hn
  go_enter Tryz.func52, Tryz.ntmps52
  go_wp2
  go_loopw [5] (fun iv wr => ∃ k : Nat, k ≤ n ∧ iv = .int .i64 k ∧ Hid (Below w.heap.size w wr)) (fun iv _ => n - (intOf iv).toNat)
  case atStart => exact ⟨0, Nat.zero_le _, rfl, Below.refl _ _⟩
  case round =>
    obtain ⟨k, hk, rfl, HW⟩ := hrel
    by_cases hlt : (k : Int) < n
    · obtain ⟨ga, e, _, _⟩ := A3.out (by omega)
      subst e
      obtain ⟨gb, e, _, _⟩ := B3.out (by omega)
      subst e
      have hkl : k < M.length := by have := HN.out; omega
      obtain ⟨x0, x1, hx⟩ : ∃ x0 x1, M[k]? = some (x0, x1) := ⟨M[k].1, M[k].2, List.getElem?_eq_getElem hkl⟩
      have GA := HSA.out.flt.below HW.out
      have GB := HSB.out.flt.below HW.out
      have c0 : wr.cell? ⟨ga, k * 2, none⟩ = some (.int .i64 x0) := GA.cell (vlcells_at M k _ hx 0 _ rfl)
      have d0 : wr.cell? ⟨gb, k * 2, none⟩ = some (.int .i64 x0) := GB.cell (vlcells_at M k _ hx 0 _ rfl)
      have c1 : wr.cell? ⟨ga, k * 2 + 1, none⟩ = some (.int .i64 x1) := GA.cell (vlcells_at M k _ hx 1 _ rfl)
      have d1 : wr.cell? ⟨gb, k * 2 + 1, none⟩ = some (.int .i64 x1) := GB.cell (vlcells_at M k _ hx 1 _ rfl)
      have k0 : (0 : Int) ≤ k := by omega
      have CE := hide (eqVl_same x0 x1 wr.drew)
      have CF := hide (eqVl_same x0 x1 wr)
      have hsz := HW.out.size
      have gaw : ga < wr.heap.size := World.block_lt_of_cell? wr _ c0
      have gbw : gb < wr.heap.size := World.block_lt_of_cell? wr _ d0
      clear hx hkl GA GB
      first
        | (go_wp2_with fail
           refine CF.out.mono ?_
           rintro e w1 ⟨rfl, b1⟩
           have HW1 := hide (HW.out.trans (b1.mono hsz)))
        | (go_wp2
           go_region_held3 (fun w' => w'.cell? ⟨ga, k * 2, none⟩ = some (.int .i64 x0) ∧ w'.cell? ⟨ga, k * 2 + 1, none⟩ = some (.int .i64 x1) ∧ w'.cell? ⟨gb, k * 2, none⟩ = some (.int .i64 x0) ∧ w'.cell? ⟨gb, k * 2 + 1, none⟩ = some (.int .i64 x1)) (first | go_keep | exact ⟨(b1.cell (show ga < wr.drew.heap.size from gaw)).trans c0, (b1.cell (show ga < wr.drew.heap.size from gaw)).trans c1, (b1.cell (show gb < wr.drew.heap.size from gbw)).trans d0, (b1.cell (show gb < wr.drew.heap.size from gbw)).trans d1⟩) ((go_at_call 81; (with_reducible refine Calls.mono CE.out ?_); rintro en w1 ⟨rfl, b1⟩))
           have HW1 := hide (HW.out.drew.trans (b1.mono (show w.heap.size ≤ wr.drew.heap.size from hsz))))
      all_goals
        clear b1 CE CF HW c0 c1 d0 d1
        go_wp2
        go_roundw
        case rel => exact ⟨k + 1, by omega, by go_num, HW1⟩
        case measure => simp [intOf]; omega
    · go_wp2
      go_ret
      exact ⟨rfl, HW.out⟩
end Go.Proofs.YtfmnaidhfgmemaaGreatDoor

namespace Go.Proofs.YtfmnaidhfgmemaaGreatDoor
open Go.RowKit
set_option maxHeartbeats 400000 in
set_option maxRecDepth 100000 in
theorem szVls_any (a : Option Addr) (len cap : Nat) (z0 : Nat) (w : World) (hz0 : z0 ≤ 1048576) (hl : len ≤ maxLen) :
    Calls Tryz.prog 40 #[.slice a len cap, .int .i64 z0] w fun e w' => (∃ r : Int, e = .returned (.int .i64 r) ∧ -1 ≤ r ∧ r ≤ z0 ∧ (0 ≤ r → r + len ≤ z0)) ∧ w' = w := by
  unfold maxLen at hl
  have hw : IntKind.i64.wrap ((z0 : Int) - len) = (z0 : Int) - len := by rw [IntKind.wrap_i64]; omega
  by_cases hlt : (z0 : Int) - len < 0
  · go_enter Tryz.func40, Tryz.ntmps40
    go_wp2
    go_ret
    exact ⟨⟨_, rfl, by omega, by omega, fun h => by omega⟩, rfl⟩
  · go_enter Tryz.func40, Tryz.ntmps40
    go_wp2
    go_ret
    exact ⟨⟨_, rfl, by omega, by omega, fun h => by omega⟩, rfl⟩
theorem vlcells_put (ls : List (Int × Int)) (R : List Value) (j : Nat) (x0 : Int) (x1 : Int) (hj : ls[j]? = some (x0, x1)) (hR : R.length = ls.length * 2) :
    ((vlcells (ls.take j) ++ R.drop (j * 2)).set (j * 2) (.int .i64 x0)).set (j * 2 + 1) (.int .i64 x1) = vlcells (ls.take (j + 1)) ++ R.drop ((j + 1) * 2) := by
  obtain ⟨hj1, hj2⟩ := List.getElem?_eq_some_iff.1 hj
  have hm : (vlcells (ls.take j)).length = j * 2 := by rw [vlcells_len, List.length_take]; congr 1; omega
  have e2 : vlcells [(x0, x1)] = [.int .i64 x0, .int .i64 x1] := rfl
  have e3 : ls.take (j + 1) = ls.take j ++ [(x0, x1)] := by rw [List.take_succ_eq_append_getElem hj1, hj2]
  rw [e3, vlcells_app, e2, List.set_append_right _ _ (by omega), List.set_append_right _ _ (by omega), hm, Nat.sub_self, Nat.add_sub_cancel_left, List.append_assoc]
  rw [List.drop_eq_getElem_cons (show j * 2 < R.length by omega), List.drop_eq_getElem_cons (show j * 2 + 1 < R.length by omega), show (j + 1) * 2 = j * 2 + 1 + 1 by omega]
  rfl
set_option maxHeartbeats 800000 in
set_option maxRecDepth 100000 in
theorem toVls_any (a : Option Addr) (len cap : Nat) (ls : List (Int × Int)) (w : World) (hl : len ≤ 1048576) (h : VlRow w a len ls) :
    Calls Tryz.prog 46 #[.slice a len cap] w fun e w' => ∃ g : Nat, e = .returned (.slice (some ⟨g, 0, none⟩) len len) ∧ w'.ownsRow w.heap.size 97 2 (.slice (some ⟨g, 0, none⟩) len len) ls.length (vlcells ls) ∧ Below w.heap.size w w' := by
  obtain ⟨i0, hi, hz0, hz1, hz2⟩ := info_parts infoVl
  obtain ⟨h1, -, -, h4⟩ := h
  have H4 := hide h4
  have H1 := hide h1
  clear h4 h1
  go_enter Tryz.func46, Tryz.ntmps46
  go_wp2_with (at_make; refine wpList_make_full _ rfl _ _ 40 rfl w.heap.size 97 i0 (.agg #[.int .i64 0, .int .i64 0]) 2 Tryz.underlying40 hi hz0 hz1 .i64 .i64 _ _ len rfl rfl rfl rfl (by rw [hz2]; omega) (by unfold maxLen; omega) (Nat.le_refl _) ?_)
  intro w1 hown hgrow
  generalize (madeCells #[Value.int .i64 0, Value.int .i64 0] (len * 2)).toList = R at hown
  have HR : Hid (R.length = ls.length * 2) := by show _ = _; rw [H1.out]; exact hown.1
  have HO := hide hown
  have HB1 := hide ((Below.refl w.heap.size w).grown hgrow (Nat.le_refl _) (fun k hk => by cases hk))
  have hg1 := (hown.lt w.heap.size rfl).2
  clear hown hgrow
  go_wp2
  go_loopw [4] (fun iv wr => ∃ k : Nat, k ≤ len ∧ iv = .int .i64 k ∧ Hid (wr.ownsRow w.heap.size 97 2 (.slice (some ⟨w.heap.size, 0, none⟩) len len) len (vlcells (ls.take k) ++ R.drop (k * 2))) ∧ Hid (Below w.heap.size w wr)) (fun iv _ => len - (intOf iv).toNat)
  case atStart => exact ⟨0, Nat.zero_le _, rfl, HO, HB1⟩
  case round =>
    obtain ⟨k, hk, rfl, HO2, HW⟩ := hrel
    have hsz := HW.out.size
    by_cases hkl : (k : Int) < len
    · obtain ⟨b, off, rfl, hb, hc⟩ := H4.out (by omega)
      have hl1 := H1.out
      have hkl2 : k < ls.length := by omega
      obtain ⟨x0, x1, ht⟩ : ∃ x0 x1, ls[k]? = some (x0, x1) := ⟨ls[k].1, ls[k].2, List.getElem?_eq_getElem hkl2⟩
      obtain ⟨c0, c1⟩ := hc k (x0, x1) ht
      rw [← HW.out.cell (show b < w.heap.size from hb)] at c0 c1
      simp only at c0 c1
      have k0 : (0 : Int) ≤ k := by omega
      clear hc hl1
      go_wp2_with fail
      refine (toVl_any x0 x1 _).mono ?_
      rintro e w3 ⟨rfl, hb3⟩
      have o3 := own_below HO2.out hb3
      have hlen3 : (vlcells (ls.take k) ++ R.drop (k * 2)).length = len * 2 := HO2.out.1
      have e3 : ∀ d, d < 2 → ∃ u, w3.cell? ⟨w.heap.size, k * 2 + d, none⟩ = some u := by
        intro d hd
        have := o3.cells (g := w.heap.size) rfl (k * 2 + d) _ (List.getElem?_eq_getElem (by rw [hlen3]; omega))
        rw [addr_at] at this
        exact ⟨_, this⟩
      obtain ⟨u0, d0⟩ := e3 0 (by omega)
      obtain ⟨u1, d1⟩ := e3 1 (by omega)
      rw [Nat.add_zero] at d0
      have f0 := o3.frozenAt (k * 2)
      have f1 := o3.frozenAt (k * 2 + 1)
      have o6 := fown_set (fown_set o3 rfl (k * 2) (.int .i64 x0)) rfl (k * 2 + 1) (.int .i64 x1)
      rw [vlcells_put ls R k x0 x1 ht HR.out] at o6
      have b6 := (((HW.out.trans (hb3.mono hsz)).setCell (p := ⟨w.heap.size, k * 2, none⟩) (Nat.le_refl _) (.int .i64 x0)).setCell (p := ⟨w.heap.size, k * 2 + 1, none⟩) (Nat.le_refl _) (.int .i64 x1))
      have O6 := hide o6
      have B6 := hide b6
      clear o3 o6 b6 hlen3 e3 hb3 HW HO2 c0 c1 ht hkl2
      go_wp2
      go_roundw
      case rel => exact ⟨k + 1, by omega, by go_num, O6, B6⟩
      case measure => simp [intOf]; omega
    · have hke : k = len := by omega
      have hO := HO2.out
      have hl1 := H1.out
      have hr1 := HR.out
      rw [hke, List.take_of_length_le (by omega), List.drop_eq_nil_of_le (by omega), List.append_nil] at hO
      have HO3 := hide hO
      clear hO hke hl1 hr1
      go_wp2
      go_ret
      exact ⟨_, rfl, (by rw [H1.out]; exact HO3.out), HW.out⟩
end Go.Proofs.YtfmnaidhfgmemaaGreatDoor
