/-
  MkSto; EqVl; ToVlS; EqSto; StoTk
-/
import Derived.Test.YtcjgjkejhkhknabGreatDoorPq52
import Derived.Test.YtcjgjkejhkhknabGreatDoorPq0
import Derived.Deep.RegionHeld3
import Derived.Test.YtcjgjkejhkhknabGreatDoorKnTo
import Derived.Test.YtcjgjkejhkhknabGreatDoorPq18
import Derived.Test.YtcjgjkejhkhknabGreatDoorPq21
/-
  The laws' own markStore.
-/
namespace Go.Proofs.YtcjgjkejhkhknabGreatDoor
open Go.RowKit
open Words

end Go.Proofs.YtcjgjkejhkhknabGreatDoor

/-
  The laws' own toVol, eqVol and eqVolS.
-/
namespace Go.Proofs.YtcjgjkejhkhknabGreatDoor
open Go.RowKit

set_option maxHeartbeats 400000 in
set_option maxRecDepth 100000 in
theorem toVl_any (x0 : Int) (x1 : Int) (w : World) :
    Calls Tryz.prog 52 #[.agg #[.int .i64 x0, .int .i64 x1]] w fun e w' => e = .returned (.agg #[.int .i64 x0, .int .i64 x1]) ∧ Below w.heap.size w w' := by
  go_enter Tryz.func52, Tryz.ntmps52
  go_wp2
  have h1 := heap_alloc_new (w.alloc (.cells #[.int .i64 x0, .int .i64 x1] 110)) (.cells #[.int .i64 x0, .int .i64 x1] 107)
  have hs : (w.alloc (.cells #[.int .i64 x0, .int .i64 x1] 110)).heap.size = w.heap.size + 1 := by simp
  rw [hs] at h1
  have h2 := (Below.heap_alloc ((w.alloc (.cells #[.int .i64 x0, .int .i64 x1] 110)).alloc (.cells #[.int .i64 x0, .int .i64 x1] 107)) (.cells #[.int .i64 x0, .int .i64 x1] 107) (w.heap.size + 1) (by simp)).trans h1
  exact bodyPost_ret (results_cell_row rfl _ _ (w.heap.size + 1) 107 _ (0, 0) _ rfl h2 Tryz.underlying107 rfl infoVlz) rfl ⟨rfl, (((Below.refl _ _).alloc (Nat.le_refl _) _).alloc (by simp) _).alloc (by simp; omega) _⟩
set_option maxHeartbeats 400000 in
set_option maxRecDepth 100000 in
theorem eqVl_same (x0 : Int) (x1 : Int) (w : World) :
    Calls Tryz.prog 58 #[.agg #[.int .i64 x0, .int .i64 x1], .agg #[.int .i64 x0, .int .i64 x1]] w fun e w' => e = .returned (.bool true) ∧ Below w.heap.size w w' := by
  have e0 : (x0 != x0) = false := by simp
  have e1 : (x1 != x1) = false := by simp
  go_enter Tryz.func58, Tryz.ntmps58
  go_wp2
  go_ret
  exact ⟨rfl, ((Below.refl _ _).alloc (Nat.le_refl _) _).alloc (by simp) _⟩
set_option maxHeartbeats 1000000 in
set_option maxRecDepth 100000 in
theorem eqVls_same (a b : Value) (M : List (Int × Int)) (B1 C1 B2 C2 : Nat) (w : World) (hM : M.length ≤ 1000000000000000000) (ha : Sli 107 B1 C1 a M.length (vlcells M) w) (hb : Sli 107 B2 C2 b M.length (vlcells M) w) :
    Calls Tryz.prog 35 #[a, b] w fun e w' => e = .returned (.bool true) ∧ Below w.heap.size w w' := by
  obtain ⟨ad, capa, rfl, a3⟩ := ha.form
  obtain ⟨bd, capb, rfl, b3⟩ := hb.form
  obtain ⟨n, hn⟩ : ∃ n, M.length = n := ⟨_, rfl⟩
  have HN := hide hn
  have HSA := hide ha
  have HSB := hide hb
  rw [hn] at hM a3 b3 HSA HSB ⊢
  have A3 := hide a3
  have B3 := hide b3
  clear a3 b3 ha hb hn
  go_enter Tryz.func35, Tryz.ntmps35
  go_wp2
  go_loopw [5] (fun iv wr => ∃ k : Nat, k ≤ n ∧ iv = .int .i64 k ∧ Hid (Below w.heap.size w wr)) (fun iv _ => n - (intOf iv).toNat)
  case atStart => exact ⟨0, Nat.zero_le _, rfl, Below.refl _ _⟩
  case round =>
    obtain ⟨k, hk, rfl, HW⟩ := hrel
    by_cases hlt : (k : Int) < n
    · obtain ⟨ga, e, _, _⟩ := A3.out (by omega)
      subst e
      obtain ⟨gb, e, _, _⟩ := B3.out (by omega)
      subst e
      have hkl : k < M.length := by have := HN.out; omega
      obtain ⟨x0, x1, hx⟩ : ∃ x0 x1, M[k]? = some (x0, x1) := ⟨M[k].1, M[k].2, List.getElem?_eq_getElem hkl⟩
      have GA := HSA.out.flt.below HW.out
      have GB := HSB.out.flt.below HW.out
      have c0 : wr.cell? ⟨ga, k * 2, none⟩ = some (.int .i64 x0) := GA.cell (vlcells_at M k _ hx 0 _ rfl)
      have d0 : wr.cell? ⟨gb, k * 2, none⟩ = some (.int .i64 x0) := GB.cell (vlcells_at M k _ hx 0 _ rfl)
      have c1 : wr.cell? ⟨ga, k * 2 + 1, none⟩ = some (.int .i64 x1) := GA.cell (vlcells_at M k _ hx 1 _ rfl)
      have d1 : wr.cell? ⟨gb, k * 2 + 1, none⟩ = some (.int .i64 x1) := GB.cell (vlcells_at M k _ hx 1 _ rfl)
      have k0 : (0 : Int) ≤ k := by omega
      have CE := hide (eqVl_same x0 x1 wr.drew)
      have CF := hide (eqVl_same x0 x1 wr)
      have hsz := HW.out.size
      have gaw : ga < wr.heap.size := World.block_lt_of_cell? wr _ c0
      have gbw : gb < wr.heap.size := World.block_lt_of_cell? wr _ d0
      clear hx hkl GA GB
      first
        | (go_wp2_with fail
           refine CF.out.mono ?_
           rintro e w1 ⟨rfl, b1⟩
           have HW1 := hide (HW.out.trans (b1.mono hsz)))
        | (go_wp2
           go_region_held3 (fun w' => w'.cell? ⟨ga, k * 2, none⟩ = some (.int .i64 x0) ∧ w'.cell? ⟨ga, k * 2 + 1, none⟩ = some (.int .i64 x1) ∧ w'.cell? ⟨gb, k * 2, none⟩ = some (.int .i64 x0) ∧ w'.cell? ⟨gb, k * 2 + 1, none⟩ = some (.int .i64 x1)) (first | go_keep | exact ⟨(b1.cell (show ga < wr.drew.heap.size from gaw)).trans c0, (b1.cell (show ga < wr.drew.heap.size from gaw)).trans c1, (b1.cell (show gb < wr.drew.heap.size from gbw)).trans d0, (b1.cell (show gb < wr.drew.heap.size from gbw)).trans d1⟩) ((go_at_call 58; (with_reducible refine Calls.mono CE.out ?_); rintro en w1 ⟨rfl, b1⟩))
           have HW1 := hide (HW.out.drew.trans (b1.mono (show w.heap.size ≤ wr.drew.heap.size from hsz))))
      all_goals
        clear b1 CE CF HW c0 c1 d0 d1
        go_wp2
        go_roundw
        case rel => exact ⟨k + 1, by omega, by go_num, HW1⟩
        case measure => simp [intOf]; omega
    · go_wp2
      go_ret
      exact ⟨rfl, HW.out⟩
end Go.Proofs.YtcjgjkejhkhknabGreatDoor

/-
  The laws' own szVolS and toVolS.
-/
namespace Go.Proofs.YtcjgjkejhkhknabGreatDoor
open Go.RowKit

set_option maxHeartbeats 400000 in
set_option maxRecDepth 100000 in
theorem szVls_any (a : Option Addr) (len cap : Nat) (z0 : Nat) (w : World) (hz0 : z0 ≤ 1048576) (hl : len ≤ maxLen) :
    Calls Tryz.prog 26 #[.slice a len cap, .int .i64 z0] w fun e w' => (∃ r : Int, e = .returned (.int .i64 r) ∧ -1 ≤ r ∧ r ≤ z0 ∧ (0 ≤ r → r + len ≤ z0)) ∧ w' = w := by
  unfold maxLen at hl
  have hw : IntKind.i64.wrap ((z0 : Int) - len) = (z0 : Int) - len := by rw [IntKind.wrap_i64]; omega
  by_cases hlt : (z0 : Int) - len < 0
  · go_enter Tryz.func26, Tryz.ntmps26
    go_wp2
    go_ret
    exact ⟨⟨_, rfl, by omega, by omega, fun h => by omega⟩, rfl⟩
  · go_enter Tryz.func26, Tryz.ntmps26
    go_wp2
    go_ret
    exact ⟨⟨_, rfl, by omega, by omega, fun h => by omega⟩, rfl⟩
theorem vlcells_put (ls : List (Int × Int)) (R : List Value) (j : Nat) (x0 : Int) (x1 : Int) (hj : ls[j]? = some (x0, x1)) (hR : R.length = ls.length * 2) :
    ((vlcells (ls.take j) ++ R.drop (j * 2)).set (j * 2) (.int .i64 x0)).set (j * 2 + 1) (.int .i64 x1) = vlcells (ls.take (j + 1)) ++ R.drop ((j + 1) * 2) := by
  obtain ⟨hj1, hj2⟩ := List.getElem?_eq_some_iff.1 hj
  have hm : (vlcells (ls.take j)).length = j * 2 := by rw [vlcells_len, List.length_take]; congr 1; omega
  have e2 : vlcells [(x0, x1)] = [.int .i64 x0, .int .i64 x1] := rfl
  have e3 : ls.take (j + 1) = ls.take j ++ [(x0, x1)] := by rw [List.take_succ_eq_append_getElem hj1, hj2]
  rw [e3, vlcells_app, e2, List.set_append_right _ _ (by omega), List.set_append_right _ _ (by omega), hm, Nat.sub_self, Nat.add_sub_cancel_left, List.append_assoc]
  rw [List.drop_eq_getElem_cons (show j * 2 < R.length by omega), List.drop_eq_getElem_cons (show j * 2 + 1 < R.length by omega), show (j + 1) * 2 = j * 2 + 1 + 1 by omega]
  rfl
set_option maxHeartbeats 800000 in
set_option maxRecDepth 100000 in
theorem toVls_any (a : Option Addr) (len cap : Nat) (ls : List (Int × Int)) (w : World) (hl : len ≤ 1048576) (h : VlRow w a len ls) :
    Calls Tryz.prog 31 #[.slice a len cap] w fun e w' => ∃ g : Nat, e = .returned (.slice (some ⟨g, 0, none⟩) len len) ∧ w'.ownsRow w.heap.size 107 2 (.slice (some ⟨g, 0, none⟩) len len) ls.length (vlcells ls) ∧ Below w.heap.size w w' := by
  obtain ⟨i0, hi, hz0, hz1, hz2⟩ := info_parts infoVl
  obtain ⟨h1, -, -, h4⟩ := h
  have H4 := hide h4
  have H1 := hide h1
  clear h4 h1
  go_enter Tryz.func31, Tryz.ntmps31
  go_wp2_with (at_make; refine wpList_make_full _ rfl _ _ 44 rfl w.heap.size 107 i0 (.agg #[.int .i64 0, .int .i64 0]) 2 Tryz.underlying44 hi hz0 hz1 .i64 .i64 _ _ len rfl rfl rfl rfl (by rw [hz2]; omega) (by unfold maxLen; omega) (Nat.le_refl _) ?_)
  intro w1 hown hgrow
  generalize (madeCells #[Value.int .i64 0, Value.int .i64 0] (len * 2)).toList = R at hown
  have HR : Hid (R.length = ls.length * 2) := by show _ = _; rw [H1.out]; exact hown.1
  have HO := hide hown
  have HB1 := hide ((Below.refl w.heap.size w).grown hgrow (Nat.le_refl _) (fun k hk => by cases hk))
  have hg1 := (hown.lt w.heap.size rfl).2
  clear hown hgrow
  go_wp2
  go_loopw [4] (fun iv wr => ∃ k : Nat, k ≤ len ∧ iv = .int .i64 k ∧ Hid (wr.ownsRow w.heap.size 107 2 (.slice (some ⟨w.heap.size, 0, none⟩) len len) len (vlcells (ls.take k) ++ R.drop (k * 2))) ∧ Hid (Below w.heap.size w wr)) (fun iv _ => len - (intOf iv).toNat)
  case atStart => exact ⟨0, Nat.zero_le _, rfl, HO, HB1⟩
  case round =>
    obtain ⟨k, hk, rfl, HO2, HW⟩ := hrel
    have hsz := HW.out.size
    by_cases hkl : (k : Int) < len
    · obtain ⟨b, off, rfl, hb, hc⟩ := H4.out (by omega)
      have hl1 := H1.out
      have hkl2 : k < ls.length := by omega
      obtain ⟨x0, x1, ht⟩ : ∃ x0 x1, ls[k]? = some (x0, x1) := ⟨ls[k].1, ls[k].2, List.getElem?_eq_getElem hkl2⟩
      obtain ⟨c0, c1⟩ := hc k (x0, x1) ht
      rw [← HW.out.cell (show b < w.heap.size from hb)] at c0 c1
      simp only at c0 c1
      have k0 : (0 : Int) ≤ k := by omega
      clear hc hl1
      go_wp2_with fail
      refine (toVl_any x0 x1 _).mono ?_
      rintro e w3 ⟨rfl, hb3⟩
      have o3 := own_below HO2.out hb3
      have hlen3 : (vlcells (ls.take k) ++ R.drop (k * 2)).length = len * 2 := HO2.out.1
      have e3 : ∀ d, d < 2 → ∃ u, w3.cell? ⟨w.heap.size, k * 2 + d, none⟩ = some u := by
        intro d hd
        have := o3.cells (g := w.heap.size) rfl (k * 2 + d) _ (List.getElem?_eq_getElem (by rw [hlen3]; omega))
        rw [addr_at] at this
        exact ⟨_, this⟩
      obtain ⟨u0, d0⟩ := e3 0 (by omega)
      obtain ⟨u1, d1⟩ := e3 1 (by omega)
      rw [Nat.add_zero] at d0
      have f0 := o3.frozenAt (k * 2)
      have f1 := o3.frozenAt (k * 2 + 1)
      have o6 := fown_set (fown_set o3 rfl (k * 2) (.int .i64 x0)) rfl (k * 2 + 1) (.int .i64 x1)
      rw [vlcells_put ls R k x0 x1 ht HR.out] at o6
      have b6 := (((HW.out.trans (hb3.mono hsz)).setCell (p := ⟨w.heap.size, k * 2, none⟩) (Nat.le_refl _) (.int .i64 x0)).setCell (p := ⟨w.heap.size, k * 2 + 1, none⟩) (Nat.le_refl _) (.int .i64 x1))
      have O6 := hide o6
      have B6 := hide b6
      clear o3 o6 b6 hlen3 e3 hb3 HW HO2 c0 c1 ht hkl2
      go_wp2
      go_roundw
      case rel => exact ⟨k + 1, by omega, by go_num, O6, B6⟩
      case measure => simp [intOf]; omega
    · have hke : k = len := by omega
      have hO := HO2.out
      have hl1 := H1.out
      have hr1 := HR.out
      rw [hke, List.take_of_length_le (by omega), List.drop_eq_nil_of_le (by omega), List.append_nil] at hO
      have HO3 := hide hO
      clear hO hke hl1 hr1
      go_wp2
      go_ret
      exact ⟨_, rfl, (by rw [H1.out]; exact HO3.out), HW.out⟩
end Go.Proofs.YtcjgjkejhkhknabGreatDoor

/-
  The laws' own szStore and eqStore.
-/
namespace Go.Proofs.YtcjgjkejhkhknabGreatDoor
open Go.RowKit
open Words

set_option maxHeartbeats 400000 in
set_option maxRecDepth 100000 in
theorem szSto_any (va : Option Addr) (vl vc : Nat) (a : Option Addr) (len cap : Nat) (nx : Int) (rs : List Kw) (z0 : Nat) (w : World) (hz0 : z0 ≤ 1048576) (hvl : vl ≤ maxLen) (h : KnRd w a len rs) :
    Calls Tryz.prog 12 #[.agg #[.slice va vl vc, .slice a len cap, .int .i64 nx], .int .i64 z0] w fun e w' => (∃ r : Int, e = .returned (.int .i64 r) ∧ -1 ≤ r ∧ r ≤ z0 ∧ (0 ≤ r → r + vl + len + ksum rs ≤ z0)) ∧ Below w.heap.size w w' := by
  have bA := (Below.refl w.heap.size w).alloc (Nat.le_refl _) (.cells #[.slice va vl vc, .slice a len cap, .int .i64 nx] 41)
  have HB := hide bA
  have H := hide (h.below bA)
  have GB := hide (heap_alloc_new w (.cells #[.slice va vl vc, .slice a len cap, .int .i64 nx] 41))
  clear bA h
  go_enter Tryz.func12, Tryz.ntmps12
  go_wp2_with fail
  generalize w.alloc (.cells #[.slice va vl vc, .slice a len cap, .int .i64 nx] 41) = wb at HB H GB ⊢
  have q1 := cell_of_row _ _ 1 _ _ _ GB.out
  refine (szVls_any va vl vc z0 wb hz0 hvl).mono ?_
  rintro e w1 ⟨⟨r0, rfl, r1, r2, r3⟩, rfl⟩
  by_cases hr : r0 < 0
  · go_wp2
    go_ret
    exact ⟨⟨_, rfl, by omega, by omega, fun h => by omega⟩, HB.out⟩
  · obtain ⟨y, rfl⟩ : ∃ y : Nat, r0 = y := ⟨r0.toNat, by omega⟩
    have h3 := r3 (by omega)
    have C := hide (szAr_any a len cap rs y w1 (by omega) H.out)
    clear r3
    go_wp2_with fail
    refine C.out.mono ?_
    rintro e w2 ⟨⟨s0, rfl, s1, s2, s3⟩, b2⟩
    have B2 := hide (HB.out.trans (b2.mono HB.out.size))
    clear C b2
    by_cases hs : s0 < 0
    · go_wp2
      go_ret
      exact ⟨⟨_, rfl, by omega, by omega, fun h => by omega⟩, B2.out⟩
    · have h4 := s3 (by omega)
      clear s3
      go_wp2
      go_ret
      exact ⟨⟨_, rfl, by omega, by omega, fun h => by omega⟩, B2.out⟩
end Go.Proofs.YtcjgjkejhkhknabGreatDoor

/-
  What the laws hold: stores.
-/
namespace Go.Proofs.YtcjgjkejhkhknabGreatDoor
open Go.RowKit
open Words

/-- A store that is not too great to be marked. -/
def OkS (s : Sto) : Prop := s.vols.length ≤ 1048576 ∧ OkK s.kns ∧ s.kns.length ≤ 1048576 ∧ kend (1 + s.vols.length * 2) s.kns ≤ 1000000000
theorem OkS.fit {s : Sto} (h : OkS s) : s.Fit := ⟨h.1, h.2.2.1, h.2.1.2.1⟩
theorem OkS.of {s : Sto} (h1 : s.vols.length ≤ 1048576) (h2 : s.kns.length ≤ 1048576) (h3 : kkids s.kns ≤ 1048576) : OkS s :=
  ⟨h1, OkK.of h2 h3, h2, by rw [kend_eq]; omega⟩
theorem kkids_le {l : List Kn} {b : Nat} (h : ∀ k ∈ l, k.kids.length ≤ b) : kkids l ≤ l.length * b := by
  unfold kkids
  induction l with
  | nil => simp
  | cons q l ih =>
    rw [List.map_cons, List.sum_cons, List.length_cons, Nat.succ_mul]
    have := ih (fun k hk => h k (List.mem_cons_of_mem _ hk))
    have := h q List.mem_cons_self
    omega
theorem right_oks {s : Sto} (h : s.Right) : OkS s := by
  have h1 := h.few
  have h2 := right_small h
  refine OkS.of (by omega) (by omega) ?_
  have : kkids s.kns ≤ s.kns.length * 4 := kkids_le (fun k hk => by
    obtain ⟨i, hi, e⟩ := List.mem_iff_getElem.1 hk
    have := knB_len (arB_at h.ar (i := i) (x := k) (by rw [← e]; exact List.getElem?_eq_getElem hi))
    omega)
  omega
theorem enter_oks {s : Sto} (h : OkS s) (r : Rc) : OkS (enterS s r).1 := by
  by_cases hb : stoB s = true
  · exact right_oks (enter_right ((stoB_iff s).1 hb) r)
  · rw [enterS, if_neg (fun q => hb q.1)]; exact h
theorem eqvl_tk {w wi : World} {hs : List Hold} {a b : Value} {M : List (Int × Int)} {n l1 h1 l2 h2 : Nat} (T : Tk w wi hs) (n1 n2 : Nat) (hn : M.length = n) (hM : n ≤ 1048576) (e1 : hs[n1]? = some (l1, h1, Sli 107 l1 h1 a n (vlcells M))) (e2 : hs[n2]? = some (l2, h2, Sli 107 l2 h2 b n (vlcells M))) :
    Calls Tryz.prog 35 #[a, b] wi fun e w' => e = .returned (.bool true) ∧ Tk w w' hs ∧ wi.heap.size ≤ w'.heap.size := by
  have x1 := T.get n1 e1
  have x2 := T.get n2 e2
  rw [← hn] at x1 x2
  refine (eqVls_same a b M l1 h1 l2 h2 wi (by omega) x1 x2).mono ?_
  rintro e w' ⟨rfl, hb⟩
  exact ⟨rfl, T.below hb, hb.size⟩
set_option maxHeartbeats 400000 in
set_option maxRecDepth 100000 in
theorem eqsto_tk {w wi : World} {hs : List Hold} {v u : Value} {s : Sto} {l1 h1 l2 h2 : Nat} (T : Tk w wi hs) (n1 n2 : Nat) (ho : OkS s) (e1 : hs[n1]? = some (l1, h1, Sts l1 h1 v s)) (e2 : hs[n2]? = some (l2, h2, Sts l2 h2 u s)) :
    Calls Tryz.prog 16 #[v, u] wi fun e w' => e = .returned (.bool true) ∧ Tk w w' hs ∧ wi.heap.size ≤ w'.heap.size := by
  have k1 := T.hi n1 e1
  have k2 := T.hi n2 e2
  obtain ⟨vv, kv, a1, b1, a2, b2, rfl, x1, x2, -, p2, -, p4, -⟩ := T.get n1 e1
  obtain ⟨uu, lv, c1, d1, c2, d2, rfl, y1, y2, -, q2, -, q4, -⟩ := T.get n2 e2
  have T1 := (((T.put (show b1 ≤ wi.heap.size by omega) (Sli.loc _ _ _ _ _ _) x1).put (show d1 ≤ wi.heap.size by omega) (Sli.loc _ _ _ _ _ _) y1).put (show b2 ≤ wi.heap.size by omega) (Kns.loc _ _ _ _) x2).put (show d2 ≤ wi.heap.size by omega) (Kns.loc _ _ _ _) y2
  obtain ⟨va, vc, rfl, -⟩ := x1.form
  obtain ⟨ua, uc, rfl, -⟩ := y1.form
  obtain ⟨ad, cap, rfl⟩ := x2.form
  obtain ⟨bd, cbp, rfl⟩ := y2.form
  obtain ⟨vs, kns, nx⟩ := s
  obtain ⟨o1, o2, -, -⟩ := ho
  simp only at T1 o1 o2 ⊢
  obtain ⟨vl, hvl⟩ : ∃ n, vs.length = n := ⟨_, rfl⟩
  obtain ⟨len, hlen⟩ : ∃ n, kns.length = n := ⟨_, rfl⟩
  rw [hvl, hlen] at T1 ⊢
  have T2 := hide ((T1.cell #[.slice va vl vc, .slice ad len cap, .int .i64 nx] 49).celln (alloc_size rfl _) #[.slice ua vl uc, .slice bd len cbp, .int .i64 nx] 49)
  have HV := hide hvl
  have HO2 := hide o2
  rw [hvl] at o1
  have HO1 := hide o1
  have hnn : (nx != nx) = false := by simp
  clear T T1 x1 x2 y1 y2 k1 k2 p2 p4 q2 q4 hvl hlen o1 o2 e1 e2
  go_enter Tryz.func16, Tryz.ntmps16
  go_wp2_with fail
  generalize (wi.alloc (.cells #[.slice va vl vc, .slice ad len cap, .int .i64 nx] 49)).alloc (.cells #[.slice ua vl uc, .slice bd len cbp, .int .i64 nx] 49) = wb at T2 ⊢
  refine (eqvl_tk T2.out 5 4 HV.out HO1.out rfl rfl).mono ?_
  rintro e w1 ⟨rfl, t1, s1⟩
  have T3 := hide t1
  have m1 : w1.cell? ⟨wi.heap.size, 1, none⟩ = some (.slice ad len cap) := T3.out.at 1 1 rfl rfl
  have m2 : w1.cell? ⟨wi.heap.size + 1, 1, none⟩ = some (.slice bd len cbp) := T3.out.at 0 1 rfl rfl
  clear t1 T2
  go_wp2_with fail
  refine (eqar_tk T3.out 3 2 HO2.out rfl rfl).mono ?_
  rintro e w2 ⟨rfl, t2, s2⟩
  have T4 := hide t2
  have m3 : w2.cell? ⟨wi.heap.size, 2, none⟩ = some (.int .i64 nx) := T4.out.at 1 2 rfl rfl
  have m4 : w2.cell? ⟨wi.heap.size + 1, 2, none⟩ = some (.int .i64 nx) := T4.out.at 0 2 rfl rfl
  clear t2 T3 m1 m2
  go_wp2
  go_ret
  exact ⟨rfl, T4.out.drop (fun x hx => by simp only [List.mem_cons]; exact .inr (.inr (.inr (.inr (.inr (.inr hx)))))), by have := T4.out.hi 0 rfl; omega⟩
/-- A store that is marked. -/
def MSt (lo hi : Nat) (v : Value) (m : Nat) : World → Prop := fun W => ∃ va n vc kv nx, ∃ ys : List Vw, ∃ l1 h1 l2 h2, v = .agg #[.slice va n vc, kv, .int .i64 nx] ∧ n ≤ 1048576 ∧ ys.length ≤ 1048580 ∧ (∀ y ∈ ys, y.2.2.1 ≤ 1048576) ∧ vend (1 + n * 2) ys = m ∧ Sli 107 l1 h1 (.slice va n vc) n (mkFlat patVl 1 n) W ∧ VIn l2 h2 kv (vmk (1 + n * 2) ys) W ∧ lo ≤ l1 ∧ h1 ≤ hi ∧ lo ≤ l2 ∧ h2 ≤ hi
theorem MSt.loc (lo hi : Nat) (v : Value) (m : Nat) : Loc lo hi (MSt lo hi v m) := by
  rintro w w' hk ⟨va, n, vc, kv, nx, ys, l1, h1, l2, h2, e, g1, g2, g3, g4, g5, g6, g7, g8, g9, g10⟩
  exact ⟨va, n, vc, kv, nx, ys, l1, h1, l2, h2, e, g1, g2, g3, g4, Sli.loc _ _ _ _ _ _ w w' (fun g q1 q2 => hk g (by omega) (by omega)) g5, VIn.loc _ _ _ _ w w' (fun g q1 q2 => hk g (by omega) (by omega)) g6, g7, g8, g9, g10⟩
end Go.Proofs.YtcjgjkejhkhknabGreatDoor
