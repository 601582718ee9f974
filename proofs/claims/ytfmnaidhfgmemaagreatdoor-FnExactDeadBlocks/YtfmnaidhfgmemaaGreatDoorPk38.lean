/-
  TkKn; StsM; KnMkF; ArMkF
-/
import Derived.Test.YtfmnaidhfgmemaaGreatDoorPk35
import Derived.Test.YtfmnaidhfgmemaaGreatDoorPk36
import Derived.Test.YtfmnaidhfgmemaaGreatDoorKnTo
import Derived.Test.YtfmnaidhfgmemaaGreatDoorPk8
import Derived.Deep.DeepCutAuto
import Derived.Deep.RegionHeld3
namespace Go.Proofs.YtfmnaidhfgmemaaGreatDoor
open Go.RowKit
open Words
def kend : Nat → List Kn → Nat
  | k, [] => k
  | k, t :: l => kend (k + 1 + t.kids.length) l
def kkids (l : List Kn) : Nat := (l.map (fun t => t.kids.length)).sum
theorem kend_eq : ∀ (l : List Kn) (k : Nat), kend k l = k + l.length + kkids l := by
  intro l
  induction l with
  | nil => intro k; simp [kend, kkids]
  | cons t l ih => intro k; rw [kend, ih, List.length_cons]; unfold kkids; rw [List.map_cons, List.sum_cons]; omega
theorem vend_kend : ∀ (rs : List Kw) (k : Nat), vend k (rs.map vOf) = kend k (rs.map ktell) := by
  intro rs
  induction rs with
  | nil => intro k; rfl
  | cons r rs ih => intro k; simp only [List.map_cons, vend, kend, ih]; rfl
def OkK (M : List Kn) : Prop := M.length ≤ 1048580 ∧ (∀ t ∈ M, t.kids.length ≤ 1048576) ∧ kend 1 M ≤ 1000000000
theorem kmem_sum {l : List Kn} {x : Kn} (h : x ∈ l) : x.kids.length ≤ kkids l := by
  unfold kkids
  induction l with
  | nil => cases h
  | cons q l ih =>
    rw [List.map_cons, List.sum_cons]
    rcases List.mem_cons.1 h with e | e
    · subst e; omega
    · have := ih e; omega
theorem OkK.of {M : List Kn} (h1 : M.length ≤ 1048576) (h2 : kkids M ≤ 1048576) : OkK M :=
  ⟨by omega, fun t ht => Nat.le_trans (kmem_sum ht) h2, by rw [kend_eq]; omega⟩
theorem ksum_kids (rs : List Kw) : kkids (rs.map ktell) = ksum rs := by unfold kkids ksum; rw [List.map_map]; rfl
theorem OkK.row {M : List Kn} {rs : List Kw} (ho : OkK M) (hr : rs.map ktell = M) : rs.length ≤ 1048580 ∧ ∀ r ∈ rs, r.2.2.length ≤ 1048576 := by
  refine ⟨by have := congrArg List.length hr; simp only [List.length_map] at this; rw [this]; exact ho.1, fun r hr2 => ?_⟩
  exact ho.2.1 (ktell r) (by rw [← hr]; exact List.mem_map.2 ⟨r, hr2, rfl⟩)
theorem eqar_tk {w wi : World} {hs : List Hold} {a b : Value} {M : List Kn} {l1 h1 l2 h2 : Nat} (T : Tk w wi hs) (n1 n2 : Nat) (ho : OkK M) (e1 : hs[n1]? = some (l1, h1, Kns l1 h1 a M)) (e2 : hs[n2]? = some (l2, h2, Kns l2 h2 b M)) :
    Calls Tryz.prog 53 #[.agg #[a], .agg #[b]] wi fun e w' => e = .returned (.bool true) ∧ Tk w w' hs ∧ wi.heap.size ≤ w'.heap.size := by
  obtain ⟨rs, hr, hx⟩ := T.get n1 e1
  obtain ⟨ss, hs', hy⟩ := T.get n2 e2
  obtain ⟨q1, q2⟩ := ho.row hr
  refine (eqAr_same a b rs ss l1 h1 l2 h2 wi (by omega) (fun r hr => by have := q2 r hr; omega) hx hy (by rw [hr, hs']) (T.hi n1 e1) (T.hi n2 e2)).mono ?_
  rintro e w' ⟨rfl, hb⟩
  exact ⟨rfl, T.below hb, hb.size⟩
end Go.Proofs.YtfmnaidhfgmemaaGreatDoor

namespace Go.Proofs.YtfmnaidhfgmemaaGreatDoor
open Go.RowKit
open Words
def Sts (lo hi : Nat) (v : Value) (s : Sto) : World → Prop := fun W =>
  ∃ vv kv lo1 hi1 lo2 hi2, v = .agg #[vv, kv, .int .i64 s.next] ∧ Sli 97 lo1 hi1 vv s.vols.length (vlcells s.vols) W ∧ Kns lo2 hi2 kv s.kns W ∧ lo ≤ lo1 ∧ hi1 ≤ hi ∧ lo ≤ lo2 ∧ hi2 ≤ hi ∧ (hi1 ≤ lo2 ∨ hi2 ≤ lo1)
theorem Sts.loc (lo hi : Nat) (v : Value) (s : Sto) : Loc lo hi (Sts lo hi v s) := by
  rintro w w' hk ⟨vv, kv, lo1, hi1, lo2, hi2, e, h1, h2, h3, h4, h5, h6, h7⟩
  exact ⟨vv, kv, lo1, hi1, lo2, hi2, e, Sli.loc _ _ _ _ _ _ w w' (fun g g1 g2 => hk g (by omega) (by omega)) h1, Kns.loc _ _ _ _ w w' (fun g g1 g2 => hk g (by omega) (by omega)) h2, h3, h4, h5, h6, h7⟩
theorem StOut.sts {w w' : World} {v : Value} {s : Sto} (h : StOut w s v w') : Sts w.heap.size w'.heap.size v s w' := by
  obtain ⟨vv, kv, lo1, hi1, lo2, hi2, e, h1, h2, h3, h4, h5, h6, h7, -⟩ := h
  exact ⟨vv, kv, lo1, hi1, lo2, hi2, e, h1, h2, h3, h4, h5, h6, h7⟩
theorem Sts.rd {lo hi : Nat} {W : World} {v : Value} {s : Sto} (h : Sts lo hi v s W) (hf : s.Fit) (hh : hi ≤ W.heap.size) : StIn W v s := by
  obtain ⟨vv, kv, lo1, hi1, lo2, hi2, rfl, h1, h2, h3, h4, h5, h6, h7⟩ := h
  obtain ⟨va, vc, rfl, h9, h10⟩ := VlSl.of h1 (by have := hf.1; unfold maxLen; omega) (by omega)
  obtain ⟨ad, cap, rfl⟩ := h2.form
  obtain ⟨rs, e, hr⟩ := h2.rd rfl (by omega)
  refine ⟨va, s.vols.length, vc, ad, s.kns.length, cap, rs, rfl, e.symm, hf.1, hf.2.1, fun r hr => ?_, h9, h10, hr⟩
  exact hf.2.2 (ktell r) (by rw [← e]; exact List.mem_map.2 ⟨r, hr, rfl⟩)
theorem Sts.form {lo hi : Nat} {W : World} {v : Value} {s : Sto} (h : Sts lo hi v s W) : ∃ va vc ad cap, v = .agg #[.slice va s.vols.length vc, .slice ad s.kns.length cap, .int .i64 s.next] := by
  obtain ⟨vv, kv, lo1, hi1, lo2, hi2, rfl, h1, h2, -⟩ := h
  obtain ⟨va, vc, rfl, -⟩ := h1.form
  obtain ⟨ad, cap, rfl⟩ := h2.form
  exact ⟨_, _, _, _, rfl⟩
end Go.Proofs.YtfmnaidhfgmemaaGreatDoor

namespace Go.Proofs.YtfmnaidhfgmemaaGreatDoor
open Go.RowKit
open Words
set_option maxHeartbeats 1000000 in
set_option maxRecDepth 100000 in
theorem markKns_from (k0 : Nat) (h0 : 0 < k0) (lo hi : Nat) (a : Value) (ys : List Vw) (w : World) (hl : ys.length ≤ 1048580) (hll : ∀ y ∈ ys, y.2.2.1 ≤ 1048576 ∧ y.2.2.2.length = y.2.2.1) (he : vend k0 ys ≤ 1000000000) (ha : VIn lo hi a ys w) :
    Calls Tryz.prog 84 #[a, .int .i64 (k0 : Int)] w fun e w' => e = .returned (.int .i64 ((vend k0 ys : Nat) : Int)) ∧ Hid (VIn lo hi a (vmk k0 ys) w') ∧ Hid (Kept2 w w' (Apt lo hi)) := by
  obtain ⟨ad, ca, rfl, a3⟩ := ha.1.form
  have A3 := hide a3
  have HA := hide ha
  have HLL := hide hll
  have HE := hide he
  clear a3 ha hll he
  obtain ⟨n, hn⟩ : ∃ n, ys.length = n := ⟨_, rfl⟩
  have HN := hide hn
  rw [hn] at hl A3 HA ⊢
  clear hn
  go_enter Tryz.func84, Tryz.ntmps84
  go_wp2
  go_loopw [1, 5] (fun kv iv wr => ∃ j p : Nat, j ≤ n ∧ iv = .int .i64 j ∧ kv = .int .i64 (p : Int) ∧ Hid (p = vend k0 (ys.take j)) ∧ Hid (VIn lo hi (.slice ad n ca) (vmk k0 (ys.take j) ++ ys.drop j) wr) ∧ Hid (Kept2 w wr (Apt lo hi))) (fun _ iv _ => n - (intOf iv).toNat)
  case atStart => exact ⟨0, k0, Nat.zero_le _, rfl, rfl, rfl, HA, Kept2.refl _ _⟩
  case round =>
    obtain ⟨j, p, hj, rfl, rfl, HP, HO, HW⟩ := hrel
    have hp0 : 0 < p := by have := vend_le (ys.take j) k0; have := HP.out; omega
    have hp1 : p ≤ 1000000000 := by have := vend_take ys k0 j; have := HP.out; have := HE.out; omega
    by_cases hlt : (j : Int) < n
    · obtain ⟨ga, e, g1, g2⟩ := A3.out (by omega)
      subst e
      have hjl : j < ys.length := by have := HN.out; omega
      obtain ⟨y, hy⟩ : ∃ y, ys[j]? = some y := ⟨_, List.getElem?_eq_getElem hjl⟩
      have hlm : (vmk k0 (ys.take j)).length = j := by rw [vmk_len, List.length_take]; omega
      have hms := vmk_set (k := k0) hy
      have hend := vend_succ (k := k0) hy
      rw [← HP.out] at hms hend
      obtain ⟨cur, hcur⟩ : ∃ cur, vmk k0 (ys.take j) ++ ys.drop j = cur := ⟨_, rfl⟩
      have hcl : cur.length = n := by rw [← hcur, List.length_append, hlm, List.length_drop, HN.out]; omega
      have hcj : cur[j]? = some y := by
        rw [← hcur, List.getElem?_append_right (by omega), hlm, Nat.sub_self, List.getElem?_drop, Nat.add_zero, hy]
      rw [hcur] at hms HO
      obtain ⟨hy1, hy2⟩ := HLL.out y (List.mem_of_getElem? hy)
      obtain ⟨x0, sv, m, xs⟩ := y
      simp only at hms hend hy1 hy2
      have HO1 := HO.out.1
      rw [hcl] at HO1
      have c0 : wr.cell? ⟨ga, j * 2, none⟩ = some (.bool x0) := HO1.flt.cell (vcells_at cur j _ hcj 0 _ rfl)
      have c1 : wr.cell? ⟨ga, j * 2 + 1, none⟩ = some sv := HO1.flt.cell (vcells_at cur j _ hcj 1 _ rfl)
      have f0 := HO1.flt.frozen (j * 2)
      have F2 := HO.out.flag hcl hcj (lfm p)
      simp only at F2
      have hc2 : (cur.set j (lfm p, sv, m, xs))[j]? = some (lfm p, sv, m, xs) := by rw [List.getElem?_set_self (by omega)]
      have LL := F2.2.1 _ (List.mem_of_getElem? hc2)
      simp only at LL
      obtain ⟨sa, sc, rfl, -⟩ := LL.form
      have K2 : Kept2 w (wr.setCell ⟨ga, j * 2, none⟩ (.bool (lfm p))) (Apt lo hi) := HW.out.trans (Kept2.grown (ok := Apt lo hi) (grown_cell wr ga (j * 2) (.bool (lfm p))) (fun i hi' hok => by cases hi'; exact hok ⟨g1, g2⟩))
      obtain ⟨W2, hW2⟩ : ∃ W2, wr.setCell ⟨ga, j * 2, none⟩ (.bool (lfm p)) = W2 := ⟨_, rfl⟩
      rw [hW2] at F2 LL K2
      have CM : Hid (Calls Tryz.prog 17 #[.slice sa m sc, .int .i64 ((p + 1 : Nat) : Int)] W2 fun e w' => e = .returned (.int .i64 ((p + 1 + m : Nat) : Int)) ∧ Hid (VIn lo hi (.slice (some ⟨ga, 0, none⟩) n ca) (vmk k0 (ys.take (j + 1)) ++ ys.drop (j + 1)) w') ∧ Hid (Kept2 w w' (Apt lo hi))) := by
        refine (markIs_any lo hi (.slice sa m sc) m (p + 1) xs W2 (by omega) hy2 (by omega) (by omega) LL).mono ?_
        rintro e w' ⟨rfl, hs, hk⟩
        refine ⟨rfl, ?_, ?_⟩
        · have F3 := F2.inner hc2 (mkFlat patI (p + 1) m) hk.out hs.out
          rw [List.set_set] at F3
          simp only at F3
          rw [hms] at F3
          exact F3
        · refine K2.trans ⟨hk.out.1, hk.out.2.1, hk.out.2.2.1, hk.out.2.2.2.1, fun i hi' hok => hk.out.2.2.2.2 i hi' (fun e => ?_)⟩
          have := LL.lt i e
          exact hok ⟨this.1, this.2.1⟩
      have HP2 : Hid (p + 1 + m = vend k0 (ys.take (j + 1))) := hend.symm
      have e1 : (p : Int) + 1 = ((p + 1 : Nat) : Int) := by omega
      have j0 : (0 : Int) ≤ j := by omega
      have HW2 := hide hW2
      clear hy hlm hms hend hcur hcl hcj hy1 hy2 HO1 F2 hc2 LL K2 HO HW HP hW2
      obtain ⟨p1, hp1'⟩ : ∃ p1, p + 1 = p1 := ⟨_, rfl⟩
      rw [hp1'] at e1 CM HP2
      have hb1 : p1 ≤ 1000000001 := by omega
      clear hp1'
      unfold lfm at HW2
      go_wp2_with fail
      rw [HW2.out]
      refine CM.out.mono ?_
      rintro e w5 ⟨rfl, HF5, HK5⟩
      clear CM HW2
      obtain ⟨p3, hp3⟩ : ∃ p3, p1 + m = p3 := ⟨_, rfl⟩
      rw [hp3] at HP2 ⊢
      clear hp3 c0 c1 f0
      go_wp2
      go_roundw
      case rel => exact ⟨j + 1, p3, by omega, by go_num, by first | rfl | go_num, HP2, HF5, HK5⟩
      case measure => simp [intOf]; omega
    · have hje : j = ys.length := by have := HN.out; omega
      have hO := HO.out
      rw [hje, List.drop_length, List.append_nil, List.take_length] at hO
      have hP := HP.out
      rw [hje, List.take_length] at hP
      have HO2 := hide hO
      have E : Hid ((p : Int) = ((vend k0 ys : Nat) : Int)) := by show _ = _; rw [hP]
      clear hO hje HO hP HP
      go_wp2
      go_ret
      exact ⟨congrArg (fun x => Ending.returned (.int .i64 x)) E.out, HO2, HW⟩
end Go.Proofs.YtfmnaidhfgmemaaGreatDoor

namespace Go.Proofs.YtfmnaidhfgmemaaGreatDoor
open Go.RowKit
open Words
set_option maxHeartbeats 400000 in
set_option maxRecDepth 100000 in
theorem markAr_from (k0 : Nat) (h0 : 0 < k0) (lo hi : Nat) (a : Value) (ys : List Vw) (w : World) (hl : ys.length ≤ 1048580) (hll : ∀ y ∈ ys, y.2.2.1 ≤ 1048576 ∧ y.2.2.2.length = y.2.2.1) (he : vend k0 ys ≤ 1000000000) (hh : hi ≤ w.heap.size) (ha : VIn lo hi a ys w) :
    Calls Tryz.prog 56 #[.agg #[a], .int .i64 (k0 : Int)] w fun e w' => e = .returned (.int .i64 ((vend k0 ys : Nat) : Int)) ∧ Hid (VIn lo hi a (vmk k0 ys) w') ∧ Hid (Kept2 w w' (Apt lo hi)) := by
  obtain ⟨ad, ca, rfl, a3⟩ := ha.1.form
  have bA := (Below.refl w.heap.size w).alloc (Nat.le_refl _) (.cells #[.slice ad ys.length ca] 43)
  have C := hide (markKns_from k0 h0 lo hi _ ys _ hl hll he (VIn.loc _ _ _ _ _ _ (fun i _ hi => bA.block i (by omega)) ha))
  have HK := hide (Kept2.below (ok := Apt lo hi) bA)
  obtain ⟨n, hn⟩ : ∃ n, ys.length = n := ⟨_, rfl⟩
  obtain ⟨m, hm⟩ : ∃ m, vend k0 ys = m := ⟨_, rfl⟩
  rw [hn, hm] at C
  rw [hn] at HK
  rw [hn, hm]
  clear ha hll a3 bA he hm hn hl
  go_enter Tryz.func56, Tryz.ntmps56
  go_wp2_with fail
  refine C.out.mono ?_
  rintro e w1 ⟨rfl, hv, hk⟩
  have K2 := hide (HK.out.trans hk.out)
  clear C hk HK
  go_wp2
  go_ret
  exact ⟨rfl, hv, K2⟩
end Go.Proofs.YtfmnaidhfgmemaaGreatDoor
