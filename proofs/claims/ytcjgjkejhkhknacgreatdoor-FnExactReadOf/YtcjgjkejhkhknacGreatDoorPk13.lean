/-
  TkKn; StsM; KnMkF; ArMkF; MkVl; MkSto; EqVl; ToVlS; EqSto; StoTk
-/
import Derived.Test.YtcjgjkejhkhknacGreatDoorPk11
import Derived.Test.YtcjgjkejhkhknacGreatDoorKnTo
import Derived.Test.YtcjgjkejhkhknacGreatDoorPk10
import Derived.Deep.DeepCutAuto
import Derived.Deep.RegionHeld3
import Derived.Test.YtcjgjkejhkhknacGreatDoorPk0
import Derived.Test.YtcjgjkejhkhknacGreatDoorPk1
import Derived.Test.YtcjgjkejhkhknacGreatDoorPk9
namespace Go.Proofs.YtcjgjkejhkhknacGreatDoor
open Go.RowKit
open Words
def kend : Nat → List Kn → Nat
  | k, [] => k
  | k, t :: l => kend (k + 1 + t.kids.length) l
def kkids (l : List Kn) : Nat := (l.map (fun t => t.kids.length)).sum
theorem kend_eq : ∀ (l : List Kn) (k : Nat), kend k l = k + l.length + kkids l := by
  intro l
  induction l with
  | nil => intro k; simp [kend, kkids]
  | cons t l ih => intro k; rw [kend, ih, List.length_cons]; unfold kkids; rw [List.map_cons, List.sum_cons]; omega
def OkK (M : List Kn) : Prop := M.length ≤ 1048580 ∧ (∀ t ∈ M, t.kids.length ≤ 1048576) ∧ kend 1 M ≤ 1000000000
theorem kmem_sum {l : List Kn} {x : Kn} (h : x ∈ l) : x.kids.length ≤ kkids l := by
  unfold kkids
  induction l with
  | nil => cases h
  | cons q l ih =>
    rw [List.map_cons, List.sum_cons]
    rcases List.mem_cons.1 h with e | e
    · subst e; omega
    · have := ih e; omega
theorem OkK.of {M : List Kn} (h1 : M.length ≤ 1048576) (h2 : kkids M ≤ 1048576) : OkK M :=
  ⟨by omega, fun t ht => Nat.le_trans (kmem_sum ht) h2, by rw [kend_eq]; omega⟩
theorem ksum_kids (rs : List Kw) : kkids (rs.map ktell) = ksum rs := by unfold kkids ksum; rw [List.map_map]; rfl
theorem OkK.row {M : List Kn} {rs : List Kw} (ho : OkK M) (hr : rs.map ktell = M) : rs.length ≤ 1048580 ∧ ∀ r ∈ rs, r.2.2.length ≤ 1048576 := by
  refine ⟨by have := congrArg List.length hr; simp only [List.length_map] at this; rw [this]; exact ho.1, fun r hr2 => ?_⟩
  exact ho.2.1 (ktell r) (by rw [← hr]; exact List.mem_map.2 ⟨r, hr2, rfl⟩)
theorem eqar_tk {w wi : World} {hs : List Hold} {a b : Value} {M : List Kn} {l1 h1 l2 h2 : Nat} (T : Tk w wi hs) (n1 n2 : Nat) (ho : OkK M) (e1 : hs[n1]? = some (l1, h1, Kns l1 h1 a M)) (e2 : hs[n2]? = some (l2, h2, Kns l2 h2 b M)) :
    Calls Tryz.prog 55 #[.agg #[a], .agg #[b]] wi fun e w' => e = .returned (.bool true) ∧ Tk w w' hs ∧ wi.heap.size ≤ w'.heap.size := by
  obtain ⟨rs, hr, hx⟩ := T.get n1 e1
  obtain ⟨ss, hs', hy⟩ := T.get n2 e2
  obtain ⟨q1, q2⟩ := ho.row hr
  refine (eqAr_same a b rs ss l1 h1 l2 h2 wi (by omega) (fun r hr => by have := q2 r hr; omega) hx hy (by rw [hr, hs']) (T.hi n1 e1) (T.hi n2 e2)).mono ?_
  rintro e w' ⟨rfl, hb⟩
  exact ⟨rfl, T.below hb, hb.size⟩
end Go.Proofs.YtcjgjkejhkhknacGreatDoor

namespace Go.Proofs.YtcjgjkejhkhknacGreatDoor
open Go.RowKit
open Words
def Sts (lo hi : Nat) (v : Value) (s : Sto) : World → Prop := fun W =>
  ∃ vv kv lo1 hi1 lo2 hi2, v = .agg #[vv, kv, .int .i64 s.next] ∧ Sli 99 lo1 hi1 vv s.vols.length (vlcells s.vols) W ∧ Kns lo2 hi2 kv s.kns W ∧ lo ≤ lo1 ∧ hi1 ≤ hi ∧ lo ≤ lo2 ∧ hi2 ≤ hi ∧ (hi1 ≤ lo2 ∨ hi2 ≤ lo1)
theorem Sts.loc (lo hi : Nat) (v : Value) (s : Sto) : Loc lo hi (Sts lo hi v s) := by
  rintro w w' hk ⟨vv, kv, lo1, hi1, lo2, hi2, e, h1, h2, h3, h4, h5, h6, h7⟩
  exact ⟨vv, kv, lo1, hi1, lo2, hi2, e, Sli.loc _ _ _ _ _ _ w w' (fun g g1 g2 => hk g (by omega) (by omega)) h1, Kns.loc _ _ _ _ w w' (fun g g1 g2 => hk g (by omega) (by omega)) h2, h3, h4, h5, h6, h7⟩
theorem StOut.sts {w w' : World} {v : Value} {s : Sto} (h : StOut w s v w') : Sts w.heap.size w'.heap.size v s w' := by
  obtain ⟨vv, kv, lo1, hi1, lo2, hi2, e, h1, h2, h3, h4, h5, h6, h7, -⟩ := h
  exact ⟨vv, kv, lo1, hi1, lo2, hi2, e, h1, h2, h3, h4, h5, h6, h7⟩
theorem Sts.rd {lo hi : Nat} {W : World} {v : Value} {s : Sto} (h : Sts lo hi v s W) (hf : s.Fit) (hh : hi ≤ W.heap.size) : StIn W v s := by
  obtain ⟨vv, kv, lo1, hi1, lo2, hi2, rfl, h1, h2, h3, h4, h5, h6, h7⟩ := h
  obtain ⟨va, vc, rfl, h9, h10⟩ := VlSl.of h1 (by have := hf.1; unfold maxLen; omega) (by omega)
  obtain ⟨ad, cap, rfl⟩ := h2.form
  obtain ⟨rs, e, hr⟩ := h2.rd rfl (by omega)
  refine ⟨va, s.vols.length, vc, ad, s.kns.length, cap, rs, rfl, e.symm, hf.1, hf.2.1, fun r hr => ?_, h9, h10, hr⟩
  exact hf.2.2 (ktell r) (by rw [← e]; exact List.mem_map.2 ⟨r, hr, rfl⟩)
theorem Sts.form {lo hi : Nat} {W : World} {v : Value} {s : Sto} (h : Sts lo hi v s W) : ∃ va vc ad cap, v = .agg #[.slice va s.vols.length vc, .slice ad s.kns.length cap, .int .i64 s.next] := by
  obtain ⟨vv, kv, lo1, hi1, lo2, hi2, rfl, h1, h2, -⟩ := h
  obtain ⟨va, vc, rfl, -⟩ := h1.form
  obtain ⟨ad, cap, rfl⟩ := h2.form
  exact ⟨_, _, _, _, rfl⟩
end Go.Proofs.YtcjgjkejhkhknacGreatDoor

namespace Go.Proofs.YtcjgjkejhkhknacGreatDoor
open Go.RowKit
open Words
end Go.Proofs.YtcjgjkejhkhknacGreatDoor

namespace Go.Proofs.YtcjgjkejhkhknacGreatDoor
open Go.RowKit
open Words
end Go.Proofs.YtcjgjkejhkhknacGreatDoor

namespace Go.Proofs.YtcjgjkejhkhknacGreatDoor
open Go.RowKit
end Go.Proofs.YtcjgjkejhkhknacGreatDoor

namespace Go.Proofs.YtcjgjkejhkhknacGreatDoor
open Go.RowKit
open Words
end Go.Proofs.YtcjgjkejhkhknacGreatDoor

namespace Go.Proofs.YtcjgjkejhkhknacGreatDoor
open Go.RowKit
set_option maxHeartbeats 400000 in
set_option maxRecDepth 100000 in
theorem toVl_any (x0 : Int) (x1 : Int) (w : World) :
    Calls Tryz.prog 80 #[.agg #[.int .i64 x0, .int .i64 x1]] w fun e w' => e = .returned (.agg #[.int .i64 x0, .int .i64 x1]) ∧ Below w.heap.size w w' := by
  go_enter Tryz.func80, Tryz.ntmps80
  go_wp2
  have h1 := heap_alloc_new (w.alloc (.cells #[.int .i64 x0, .int .i64 x1] 145)) (.cells #[.int .i64 x0, .int .i64 x1] 99)
  have hs : (w.alloc (.cells #[.int .i64 x0, .int .i64 x1] 145)).heap.size = w.heap.size + 1 := by simp
  rw [hs] at h1
  have h2 := (Below.heap_alloc ((w.alloc (.cells #[.int .i64 x0, .int .i64 x1] 145)).alloc (.cells #[.int .i64 x0, .int .i64 x1] 99)) (.cells #[.int .i64 x0, .int .i64 x1] 99) (w.heap.size + 1) (by simp)).trans h1
  exact bodyPost_ret (results_cell_row rfl _ _ (w.heap.size + 1) 99 _ (0, 0) _ rfl h2 Tryz.underlying99 rfl infoVlz) rfl ⟨rfl, (((Below.refl _ _).alloc (Nat.le_refl _) _).alloc (by simp) _).alloc (by simp; omega) _⟩
set_option maxHeartbeats 400000 in
set_option maxRecDepth 100000 in
theorem eqVl_same (x0 : Int) (x1 : Int) (w : World) :
    Calls Tryz.prog 83 #[.agg #[.int .i64 x0, .int .i64 x1], .agg #[.int .i64 x0, .int .i64 x1]] w fun e w' => e = .returned (.bool true) ∧ Below w.heap.size w w' := by
  have e0 : (x0 != x0) = false := by simp
  have e1 : (x1 != x1) = false := by simp
  go_enter Tryz.func83, Tryz.ntmps83
  go_wp2
  go_ret
  exact ⟨rfl, ((Below.refl _ _).alloc (Nat.le_refl _) _).alloc (by simp) _⟩
set_option maxHeartbeats 1000000 in
set_option maxRecDepth 100000 in
theorem eqVls_same (a b : Value) (M : List (Int × Int)) (B1 C1 B2 C2 : Nat) (w : World) (hM : M.length ≤ 1000000000000000000) (ha : Sli 99 B1 C1 a M.length (vlcells M) w) (hb : Sli 99 B2 C2 b M.length (vlcells M) w) :
    Calls Tryz.prog 54 #[a, b] w fun e w' => e = .returned (.bool true) ∧ Below w.heap.size w w' := by
  obtain ⟨ad, capa, rfl, a3⟩ := ha.form
  obtain ⟨bd, capb, rfl, b3⟩ := hb.form
  obtain ⟨n, hn⟩ : ∃ n, M.length = n := ⟨_, rfl⟩
  have HN := hide hn
  have HSA := hide ha
  have HSB := hide hb
  rw [hn] at hM a3 b3 HSA HSB ⊢
  have A3 := hide a3
  have B3 := hide b3
  clear a3 b3 ha hb hn
  go_enter Tryz.func54, Tryz.ntmps54
  go_wp2
  go_loopw [5] (fun iv wr => ∃ k : Nat, k ≤ n ∧ iv = .int .i64 k ∧ Hid (Below w.heap.size w wr)) (fun iv _ => n - (intOf iv).toNat)
  case atStart => exact ⟨0, Nat.zero_le _, rfl, Below.refl _ _⟩
  case round =>
    obtain ⟨k, hk, rfl, HW⟩ := hrel
    by_cases hlt : (k : Int) < n
    · obtain ⟨ga, e, _, _⟩ := A3.out (by omega)
      subst e
      obtain ⟨gb, e, _, _⟩ := B3.out (by omega)
      subst e
      have hkl : k < M.length := by have := HN.out; omega
      obtain ⟨x0, x1, hx⟩ : ∃ x0 x1, M[k]? = some (x0, x1) := ⟨M[k].1, M[k].2, List.getElem?_eq_getElem hkl⟩
      have GA := HSA.out.flt.below HW.out
      have GB := HSB.out.flt.below HW.out
      have c0 : wr.cell? ⟨ga, k * 2, none⟩ = some (.int .i64 x0) := GA.cell (vlcells_at M k _ hx 0 _ rfl)
      have d0 : wr.cell? ⟨gb, k * 2, none⟩ = some (.int .i64 x0) := GB.cell (vlcells_at M k _ hx 0 _ rfl)
      have c1 : wr.cell? ⟨ga, k * 2 + 1, none⟩ = some (.int .i64 x1) := GA.cell (vlcells_at M k _ hx 1 _ rfl)
      have d1 : wr.cell? ⟨gb, k * 2 + 1, none⟩ = some (.int .i64 x1) := GB.cell (vlcells_at M k _ hx 1 _ rfl)
      have k0 : (0 : Int) ≤ k := by omega
      have CE := hide (eqVl_same x0 x1 wr.drew)
      have CF := hide (eqVl_same x0 x1 wr)
      have hsz := HW.out.size
      have gaw : ga < wr.heap.size := World.block_lt_of_cell? wr _ c0
      have gbw : gb < wr.heap.size := World.block_lt_of_cell? wr _ d0
      clear hx hkl GA GB
      first
        | (go_wp2_with fail
           refine CF.out.mono ?_
           rintro e w1 ⟨rfl, b1⟩
           have HW1 := hide (HW.out.trans (b1.mono hsz)))
        | (go_wp2
           go_region_held3 (fun w' => w'.cell? ⟨ga, k * 2, none⟩ = some (.int .i64 x0) ∧ w'.cell? ⟨ga, k * 2 + 1, none⟩ = some (.int .i64 x1) ∧ w'.cell? ⟨gb, k * 2, none⟩ = some (.int .i64 x0) ∧ w'.cell? ⟨gb, k * 2 + 1, none⟩ = some (.int .i64 x1)) (first | go_keep | exact ⟨(b1.cell (show ga < wr.drew.heap.size from gaw)).trans c0, (b1.cell (show ga < wr.drew.heap.size from gaw)).trans c1, (b1.cell (show gb < wr.drew.heap.size from gbw)).trans d0, (b1.cell (show gb < wr.drew.heap.size from gbw)).trans d1⟩) ((go_at_call 83; (with_reducible refine Calls.mono CE.out ?_); rintro en w1 ⟨rfl, b1⟩))
           have HW1 := hide (HW.out.drew.trans (b1.mono (show w.heap.size ≤ wr.drew.heap.size from hsz))))
      all_goals
        clear b1 CE CF HW c0 c1 d0 d1
        go_wp2
        go_roundw
        case rel => exact ⟨k + 1, by omega, by go_num, HW1⟩
        case measure => simp [intOf]; omega
    · go_wp2
      go_ret
      exact ⟨rfl, HW.out⟩
end Go.Proofs.YtcjgjkejhkhknacGreatDoor

namespace Go.Proofs.YtcjgjkejhkhknacGreatDoor
open Go.RowKit
set_option maxHeartbeats 400000 in
set_option maxRecDepth 100000 in
theorem szVls_any (a : Option Addr) (len cap : Nat) (z0 : Nat) (w : World) (hz0 : z0 ≤ 1048576) (hl : len ≤ maxLen) :
    Calls Tryz.prog 44 #[.slice a len cap, .int .i64 z0] w fun e w' => (∃ r : Int, e = .returned (.int .i64 r) ∧ -1 ≤ r ∧ r ≤ z0 ∧ (0 ≤ r → r + len ≤ z0)) ∧ w' = w := by
  unfold maxLen at hl
  have hw : IntKind.i64.wrap ((z0 : Int) - len) = (z0 : Int) - len := by rw [IntKind.wrap_i64]; omega
  by_cases hlt : (z0 : Int) - len < 0
  · go_enter Tryz.func44, Tryz.ntmps44
    go_wp2
    go_ret
    exact ⟨⟨_, rfl, by omega, by omega, fun h => by omega⟩, rfl⟩
  · go_enter Tryz.func44, Tryz.ntmps44
    go_wp2
    go_ret
    exact ⟨⟨_, rfl, by omega, by omega, fun h => by omega⟩, rfl⟩
theorem vlcells_put (ls : List (Int × Int)) (R : List Value) (j : Nat) (x0 : Int) (x1 : Int) (hj : ls[j]? = some (x0, x1)) (hR : R.length = ls.length * 2) :
    ((vlcells (ls.take j) ++ R.drop (j * 2)).set (j * 2) (.int .i64 x0)).set (j * 2 + 1) (.int .i64 x1) = vlcells (ls.take (j + 1)) ++ R.drop ((j + 1) * 2) := by
  obtain ⟨hj1, hj2⟩ := List.getElem?_eq_some_iff.1 hj
  have hm : (vlcells (ls.take j)).length = j * 2 := by rw [vlcells_len, List.length_take]; congr 1; omega
  have e2 : vlcells [(x0, x1)] = [.int .i64 x0, .int .i64 x1] := rfl
  have e3 : ls.take (j + 1) = ls.take j ++ [(x0, x1)] := by rw [List.take_succ_eq_append_getElem hj1, hj2]
  rw [e3, vlcells_app, e2, List.set_append_right _ _ (by omega), List.set_append_right _ _ (by omega), hm, Nat.sub_self, Nat.add_sub_cancel_left, List.append_assoc]
  rw [List.drop_eq_getElem_cons (show j * 2 < R.length by omega), List.drop_eq_getElem_cons (show j * 2 + 1 < R.length by omega), show (j + 1) * 2 = j * 2 + 1 + 1 by omega]
  rfl
set_option maxHeartbeats 800000 in
set_option maxRecDepth 100000 in
theorem toVls_any (a : Option Addr) (len cap : Nat) (ls : List (Int × Int)) (w : World) (hl : len ≤ 1048576) (h : VlRow w a len ls) :
    Calls Tryz.prog 51 #[.slice a len cap] w fun e w' => ∃ g : Nat, e = .returned (.slice (some ⟨g, 0, none⟩) len len) ∧ w'.ownsRow w.heap.size 99 2 (.slice (some ⟨g, 0, none⟩) len len) ls.length (vlcells ls) ∧ Below w.heap.size w w' := by
  obtain ⟨i0, hi, hz0, hz1, hz2⟩ := info_parts infoVl
  obtain ⟨h1, -, -, h4⟩ := h
  have H4 := hide h4
  have H1 := hide h1
  clear h4 h1
  go_enter Tryz.func51, Tryz.ntmps51
  go_wp2_with (at_make; refine wpList_make_full _ rfl _ _ 47 rfl w.heap.size 99 i0 (.agg #[.int .i64 0, .int .i64 0]) 2 Tryz.underlying47 hi hz0 hz1 .i64 .i64 _ _ len rfl rfl rfl rfl (by rw [hz2]; omega) (by unfold maxLen; omega) (Nat.le_refl _) ?_)
  intro w1 hown hgrow
  generalize (madeCells #[Value.int .i64 0, Value.int .i64 0] (len * 2)).toList = R at hown
  have HR : Hid (R.length = ls.length * 2) := by show _ = _; rw [H1.out]; exact hown.1
  have HO := hide hown
  have HB1 := hide ((Below.refl w.heap.size w).grown hgrow (Nat.le_refl _) (fun k hk => by cases hk))
  have hg1 := (hown.lt w.heap.size rfl).2
  clear hown hgrow
  go_wp2
  go_loopw [4] (fun iv wr => ∃ k : Nat, k ≤ len ∧ iv = .int .i64 k ∧ Hid (wr.ownsRow w.heap.size 99 2 (.slice (some ⟨w.heap.size, 0, none⟩) len len) len (vlcells (ls.take k) ++ R.drop (k * 2))) ∧ Hid (Below w.heap.size w wr)) (fun iv _ => len - (intOf iv).toNat)
  case atStart => exact ⟨0, Nat.zero_le _, rfl, HO, HB1⟩
  case round =>
    obtain ⟨k, hk, rfl, HO2, HW⟩ := hrel
    have hsz := HW.out.size
    by_cases hkl : (k : Int) < len
    · obtain ⟨b, off, rfl, hb, hc⟩ := H4.out (by omega)
      have hl1 := H1.out
      have hkl2 : k < ls.length := by omega
      obtain ⟨x0, x1, ht⟩ : ∃ x0 x1, ls[k]? = some (x0, x1) := ⟨ls[k].1, ls[k].2, List.getElem?_eq_getElem hkl2⟩
      obtain ⟨c0, c1⟩ := hc k (x0, x1) ht
      rw [← HW.out.cell (show b < w.heap.size from hb)] at c0 c1
      simp only at c0 c1
      have k0 : (0 : Int) ≤ k := by omega
      clear hc hl1
      go_wp2_with fail
      refine (toVl_any x0 x1 _).mono ?_
      rintro e w3 ⟨rfl, hb3⟩
      have o3 := own_below HO2.out hb3
      have hlen3 : (vlcells (ls.take k) ++ R.drop (k * 2)).length = len * 2 := HO2.out.1
      have e3 : ∀ d, d < 2 → ∃ u, w3.cell? ⟨w.heap.size, k * 2 + d, none⟩ = some u := by
        intro d hd
        have := o3.cells (g := w.heap.size) rfl (k * 2 + d) _ (List.getElem?_eq_getElem (by rw [hlen3]; omega))
        rw [addr_at] at this
        exact ⟨_, this⟩
      obtain ⟨u0, d0⟩ := e3 0 (by omega)
      obtain ⟨u1, d1⟩ := e3 1 (by omega)
      rw [Nat.add_zero] at d0
      have f0 := o3.frozenAt (k * 2)
      have f1 := o3.frozenAt (k * 2 + 1)
      have o6 := fown_set (fown_set o3 rfl (k * 2) (.int .i64 x0)) rfl (k * 2 + 1) (.int .i64 x1)
      rw [vlcells_put ls R k x0 x1 ht HR.out] at o6
      have b6 := (((HW.out.trans (hb3.mono hsz)).setCell (p := ⟨w.heap.size, k * 2, none⟩) (Nat.le_refl _) (.int .i64 x0)).setCell (p := ⟨w.heap.size, k * 2 + 1, none⟩) (Nat.le_refl _) (.int .i64 x1))
      have O6 := hide o6
      have B6 := hide b6
      clear o3 o6 b6 hlen3 e3 hb3 HW HO2 c0 c1 ht hkl2
      go_wp2
      go_roundw
      case rel => exact ⟨k + 1, by omega, by go_num, O6, B6⟩
      case measure => simp [intOf]; omega
    · have hke : k = len := by omega
      have hO := HO2.out
      have hl1 := H1.out
      have hr1 := HR.out
      rw [hke, List.take_of_length_le (by omega), List.drop_eq_nil_of_le (by omega), List.append_nil] at hO
      have HO3 := hide hO
      clear hO hke hl1 hr1
      go_wp2
      go_ret
      exact ⟨_, rfl, (by rw [H1.out]; exact HO3.out), HW.out⟩
end Go.Proofs.YtcjgjkejhkhknacGreatDoor

namespace Go.Proofs.YtcjgjkejhkhknacGreatDoor
open Go.RowKit
open Words
set_option maxHeartbeats 400000 in
set_option maxRecDepth 100000 in
theorem szSto_any (va : Option Addr) (vl vc : Nat) (a : Option Addr) (len cap : Nat) (nx : Int) (rs : List Kw) (z0 : Nat) (w : World) (hz0 : z0 ≤ 1048576) (hvl : vl ≤ maxLen) (h : KnRd w a len rs) :
    Calls Tryz.prog 24 #[.agg #[.slice va vl vc, .slice a len cap, .int .i64 nx], .int .i64 z0] w fun e w' => (∃ r : Int, e = .returned (.int .i64 r) ∧ -1 ≤ r ∧ r ≤ z0 ∧ (0 ≤ r → r + vl + len + ksum rs ≤ z0)) ∧ Below w.heap.size w w' := by
  have bA := (Below.refl w.heap.size w).alloc (Nat.le_refl _) (.cells #[.slice va vl vc, .slice a len cap, .int .i64 nx] 37)
  have HB := hide bA
  have H := hide (h.below bA)
  have GB := hide (heap_alloc_new w (.cells #[.slice va vl vc, .slice a len cap, .int .i64 nx] 37))
  clear bA h
  go_enter Tryz.func24, Tryz.ntmps24
  go_wp2_with fail
  generalize w.alloc (.cells #[.slice va vl vc, .slice a len cap, .int .i64 nx] 37) = wb at HB H GB ⊢
  have q1 := cell_of_row _ _ 1 _ _ _ GB.out
  refine (szVls_any va vl vc z0 wb hz0 hvl).mono ?_
  rintro e w1 ⟨⟨r0, rfl, r1, r2, r3⟩, rfl⟩
  by_cases hr : r0 < 0
  · go_wp2
    go_ret
    exact ⟨⟨_, rfl, by omega, by omega, fun h => by omega⟩, HB.out⟩
  · obtain ⟨y, rfl⟩ : ∃ y : Nat, r0 = y := ⟨r0.toNat, by omega⟩
    have h3 := r3 (by omega)
    have C := hide (szAr_any a len cap rs y w1 (by omega) H.out)
    clear r3
    go_wp2_with fail
    refine C.out.mono ?_
    rintro e w2 ⟨⟨s0, rfl, s1, s2, s3⟩, b2⟩
    have B2 := hide (HB.out.trans (b2.mono HB.out.size))
    clear C b2
    by_cases hs : s0 < 0
    · go_wp2
      go_ret
      exact ⟨⟨_, rfl, by omega, by omega, fun h => by omega⟩, B2.out⟩
    · have h4 := s3 (by omega)
      clear s3
      go_wp2
      go_ret
      exact ⟨⟨_, rfl, by omega, by omega, fun h => by omega⟩, B2.out⟩
end Go.Proofs.YtcjgjkejhkhknacGreatDoor

namespace Go.Proofs.YtcjgjkejhkhknacGreatDoor
open Go.RowKit
open Words
def OkS (s : Sto) : Prop := s.vols.length ≤ 1048576 ∧ OkK s.kns ∧ s.kns.length ≤ 1048576 ∧ kend (1 + s.vols.length * 2) s.kns ≤ 1000000000
theorem OkS.fit {s : Sto} (h : OkS s) : s.Fit := ⟨h.1, h.2.2.1, h.2.1.2.1⟩
theorem OkS.of {s : Sto} (h1 : s.vols.length ≤ 1048576) (h2 : s.kns.length ≤ 1048576) (h3 : kkids s.kns ≤ 1048576) : OkS s :=
  ⟨h1, OkK.of h2 h3, h2, by rw [kend_eq]; omega⟩
theorem eqvl_tk {w wi : World} {hs : List Hold} {a b : Value} {M : List (Int × Int)} {n l1 h1 l2 h2 : Nat} (T : Tk w wi hs) (n1 n2 : Nat) (hn : M.length = n) (hM : n ≤ 1048576) (e1 : hs[n1]? = some (l1, h1, Sli 99 l1 h1 a n (vlcells M))) (e2 : hs[n2]? = some (l2, h2, Sli 99 l2 h2 b n (vlcells M))) :
    Calls Tryz.prog 54 #[a, b] wi fun e w' => e = .returned (.bool true) ∧ Tk w w' hs ∧ wi.heap.size ≤ w'.heap.size := by
  have x1 := T.get n1 e1
  have x2 := T.get n2 e2
  rw [← hn] at x1 x2
  refine (eqVls_same a b M l1 h1 l2 h2 wi (by omega) x1 x2).mono ?_
  rintro e w' ⟨rfl, hb⟩
  exact ⟨rfl, T.below hb, hb.size⟩
set_option maxHeartbeats 400000 in
set_option maxRecDepth 100000 in
theorem eqsto_tk {w wi : World} {hs : List Hold} {v u : Value} {s : Sto} {l1 h1 l2 h2 : Nat} (T : Tk w wi hs) (n1 n2 : Nat) (ho : OkS s) (e1 : hs[n1]? = some (l1, h1, Sts l1 h1 v s)) (e2 : hs[n2]? = some (l2, h2, Sts l2 h2 u s)) :
    Calls Tryz.prog 33 #[v, u] wi fun e w' => e = .returned (.bool true) ∧ Tk w w' hs ∧ wi.heap.size ≤ w'.heap.size := by
  have k1 := T.hi n1 e1
  have k2 := T.hi n2 e2
  obtain ⟨vv, kv, a1, b1, a2, b2, rfl, x1, x2, -, p2, -, p4, -⟩ := T.get n1 e1
  obtain ⟨uu, lv, c1, d1, c2, d2, rfl, y1, y2, -, q2, -, q4, -⟩ := T.get n2 e2
  have T1 := (((T.put (show b1 ≤ wi.heap.size by omega) (Sli.loc _ _ _ _ _ _) x1).put (show d1 ≤ wi.heap.size by omega) (Sli.loc _ _ _ _ _ _) y1).put (show b2 ≤ wi.heap.size by omega) (Kns.loc _ _ _ _) x2).put (show d2 ≤ wi.heap.size by omega) (Kns.loc _ _ _ _) y2
  obtain ⟨va, vc, rfl, -⟩ := x1.form
  obtain ⟨ua, uc, rfl, -⟩ := y1.form
  obtain ⟨ad, cap, rfl⟩ := x2.form
  obtain ⟨bd, cbp, rfl⟩ := y2.form
  obtain ⟨vs, kns, nx⟩ := s
  obtain ⟨o1, o2, -, -⟩ := ho
  simp only at T1 o1 o2 ⊢
  obtain ⟨vl, hvl⟩ : ∃ n, vs.length = n := ⟨_, rfl⟩
  obtain ⟨len, hlen⟩ : ∃ n, kns.length = n := ⟨_, rfl⟩
  rw [hvl, hlen] at T1 ⊢
  have T2 := hide ((T1.cell #[.slice va vl vc, .slice ad len cap, .int .i64 nx] 52).celln (alloc_size rfl _) #[.slice ua vl uc, .slice bd len cbp, .int .i64 nx] 52)
  have HV := hide hvl
  have HO2 := hide o2
  rw [hvl] at o1
  have HO1 := hide o1
  have hnn : (nx != nx) = false := by simp
  clear T T1 x1 x2 y1 y2 k1 k2 p2 p4 q2 q4 hvl hlen o1 o2 e1 e2
  go_enter Tryz.func33, Tryz.ntmps33
  go_wp2_with fail
  generalize (wi.alloc (.cells #[.slice va vl vc, .slice ad len cap, .int .i64 nx] 52)).alloc (.cells #[.slice ua vl uc, .slice bd len cbp, .int .i64 nx] 52) = wb at T2 ⊢
  refine (eqvl_tk T2.out 5 4 HV.out HO1.out rfl rfl).mono ?_
  rintro e w1 ⟨rfl, t1, s1⟩
  have T3 := hide t1
  have m1 : w1.cell? ⟨wi.heap.size, 1, none⟩ = some (.slice ad len cap) := T3.out.at 1 1 rfl rfl
  have m2 : w1.cell? ⟨wi.heap.size + 1, 1, none⟩ = some (.slice bd len cbp) := T3.out.at 0 1 rfl rfl
  clear t1 T2
  go_wp2_with fail
  refine (eqar_tk T3.out 3 2 HO2.out rfl rfl).mono ?_
  rintro e w2 ⟨rfl, t2, s2⟩
  have T4 := hide t2
  have m3 : w2.cell? ⟨wi.heap.size, 2, none⟩ = some (.int .i64 nx) := T4.out.at 1 2 rfl rfl
  have m4 : w2.cell? ⟨wi.heap.size + 1, 2, none⟩ = some (.int .i64 nx) := T4.out.at 0 2 rfl rfl
  clear t2 T3 m1 m2
  go_wp2
  go_ret
  exact ⟨rfl, T4.out.drop (fun x hx => by simp only [List.mem_cons]; exact .inr (.inr (.inr (.inr (.inr (.inr hx)))))), by have := T4.out.hi 0 rfl; omega⟩
end Go.Proofs.YtcjgjkejhkhknacGreatDoor
