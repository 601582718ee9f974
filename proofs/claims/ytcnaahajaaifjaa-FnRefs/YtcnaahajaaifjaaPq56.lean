/-
  SLive; SConL; SameIs; TkLv
-/
import Derived.Test.YtcnaahajaaifjaaPq8
import Derived.Test.YtcnaahajaaifjaaPq55
import Derived.Deep.RegionHeld3
import Derived.Test.YtcnaahajaaifjaaPq12
import Derived.Test.YtcnaahajaaifjaaPq2
import Derived.Test.YtcnaahajaaifjaaPq31
/-
  spec.LiveOf.
-/
namespace Go.Proofs.Ytcnaahajaaifjaa
open Go.RowKit
open Words

theorem insI_len (l : List Int) (x : Int) : (insI l x).length ≤ l.length + 1 := by
  have key : (l.filter (fun y => decide (y < x))).length + (l.filter (fun y => decide (x < y))).length ≤ l.length := by
    induction l with
    | nil => exact Nat.le_refl _
    | cons v l ih =>
      rw [List.filter_cons, List.filter_cons]
      by_cases h1 : v < x
      · rw [if_pos (by simpa using h1), if_neg (by simp; omega), List.length_cons, List.length_cons]; omega
      · rw [if_neg (by simpa using h1)]
        split
        · rw [List.length_cons, List.length_cons]; omega
        · rw [List.length_cons]; omega
  rw [insI, List.length_append, List.length_append]
  split
  · rw [List.length_singleton]; omega
  · rw [List.length_nil]; omega
def liveK (l : List Kn) (vs : List (Int × Int)) (k : Nat) : List Int := (vs.take k).foldl (fun acc v => (allT l v.2).foldl insI acc) []
theorem liveK_succ {l : List Kn} {vs : List (Int × Int)} {k : Nat} {v : Int × Int} (h : vs[k]? = some v) : liveK l vs (k + 1) = (allT l v.2).foldl insI (liveK l vs k) := by
  obtain ⟨h1, h2⟩ := List.getElem?_eq_some_iff.1 h
  rw [liveK, liveK, List.take_succ_eq_append_getElem h1, h2, List.foldl_append, List.foldl_cons, List.foldl_nil]
theorem fold_take {L : List Int} {acc : List Int} {m : Nat} {x : Int} (h : L[m]? = some x) : (L.take (m + 1)).foldl insI acc = insI ((L.take m).foldl insI acc) x := by
  obtain ⟨h1, h2⟩ := List.getElem?_eq_some_iff.1 h
  rw [List.take_succ_eq_append_getElem h1, h2, List.foldl_append, List.foldl_cons, List.foldl_nil]
/-- A slot that holds a row of numbers of the call's own. -/
def IHas (w W : World) (ov : Value) (l : List Int) : Prop := ∃ oa oc, ov = .slice oa l.length oc ∧ IRow W oa l.length l ∧ W.ownsRow w.heap.size 3 1 ov l.length (icells l) ∧ Below w.heap.size w W
theorem IHas.of {w W : World} {ov : Value} {l : List Int} (h : W.ownsRow w.heap.size 3 1 ov l.length (icells l)) (hm : l.length ≤ maxLen) (hb : Below w.heap.size w W) : IHas w W ov l := by
  obtain ⟨oa, oc, e, -, hr⟩ := ISl.of (Sli.of h) hm (Nat.le_refl _)
  exact ⟨oa, oc, e, hr, h, hb⟩

set_option maxHeartbeats 1000000 in
set_option maxRecDepth 100000 in
theorem slive (va : Option Addr) (vl vc : Nat) (ad : Option Addr) (len cap : Nat) (nx : Int) (vs : List (Int × Int)) (rs : List Kw) (w : World) (hvl : vl ≤ 1048578) (hl : len ≤ 1048578) (h : VlRow w va vl vs) (hk : KnRd w ad len rs) :
    Calls Try.prog 26 #[.agg (SBox va vl vc ad len cap nx)] w (IOut w (liveS ⟨vs, rs.map ktell, nx⟩)) := by
  have T0 := hide ((Tk.start w).cell #[.slice va vl vc, .slice ad len cap, .int .i64 nx] 29)
  have HVL := hide h.1
  have HV := hide h
  have HK := hide hk
  clear h hk
  obtain ⟨C, hC⟩ : ∃ C, liveS ⟨vs, rs.map ktell, nx⟩ = C := ⟨_, rfl⟩
  have HC := hide hC
  rw [hC]
  clear hC
  unfold SBox
  go_enter Try.func26, Try.ntmps26
  go_wp2_with fail
  have HS := hide (show (w.alloc (.cells #[.slice va vl vc, .slice ad len cap, .int .i64 nx] 29)).heap.size = w.heap.size + 1 by simp)
  generalize w.alloc (.cells #[.slice va vl vc, .slice ad len cap, .int .i64 nx] 29) = wb at T0 HS ⊢
  have x0 : wb.cell? ⟨w.heap.size, 0, none⟩ = some (.slice va vl vc) := T0.out.at 0 0 rfl rfl
  have x1 : wb.cell? ⟨w.heap.size, 1, none⟩ = some (.slice ad len cap) := T0.out.at 0 1 rfl rfl
  have XB := hide (World.block_lt_of_cell? wb _ x0)
  have O0 : Hid ((wb.alloc (.cells #[] 3)).ownsRow wb.heap.size 3 1 (.slice (some ⟨wb.heap.size, 0, none⟩) 0 0) ([] : List Int).length (icells [])) := World.ownsRow_made wb #[] 0 (Nat.le_refl _) (by unfold maxLen; omega) (by simp)
  have BA : Hid (Below wb.heap.size wb (wb.alloc (.cells #[] 3))) := (Below.refl _ _).alloc (Nat.le_refl _) _
  have S0 := hide (IHas.of O0.out (by simp) BA.out)
  generalize wb.alloc (.cells #[] 3) = wa at S0 ⊢
  obtain ⟨z, hz⟩ : ∃ z, w.heap.size = z := ⟨_, rfl⟩
  rw [hz] at x0 x1 XB HS ⊢
  have HZW := hide hz
  clear hz O0 BA
  go_loopw [3, 4] (fun ov iv W => ∃ (k : Nat) (l : List Int), k ≤ vl ∧ iv = .int .i64 k ∧ l.length ≤ 16 * k ∧ Hid (l = liveK (rs.map ktell) vs k) ∧ Hid (IHas wb W ov l)) (fun _ iv _ => vl - (intOf iv).toNat)
  case atStart => exact ⟨0, [], Nat.zero_le _, rfl, Nat.zero_le _, (by show _ = _; simp [liveK]), by rw [← HS.out]; exact S0.out⟩
  case round =>
    obtain ⟨k, l, hk, rfl, hlk, HL, HO⟩ := hrel
    obtain ⟨oa, oc, e, hrw, how, hbw⟩ := HO.out
    subst e
    have HW := hide hbw
    have HOW := hide how
    have HRW := hide hrw
    clear hrw how hbw
    have y0 := (HW.out.cell (show z < wb.heap.size from XB.out)).trans x0
    have y1 := (HW.out.cell (show z < wb.heap.size from XB.out)).trans x1
    by_cases hlt : (k : Int) < vl
    · have hv := List.getElem?_eq_getElem (show k < vs.length by have := HVL.out; omega)
      generalize vs[k]'(by have := HVL.out; omega) = v at hv
      obtain ⟨b, off, e, hb, c0, c1⟩ := (((HV.out.below T0.out.1).below HW.out)).at hv
      subst e
      have k0 : (0 : Int) ≤ k := by omega
      have HR : Hid (liveK (rs.map ktell) vs (k + 1) = (allT (rs.map ktell) v.2).foldl insI l) := by
        show _ = _
        rw [liveK_succ hv, HL.out]
      have CG := hide (sall ad len cap rs v.2 wr.drew hl ((HK.out.below T0.out.1).below HW.out.drew))
      have HWD := hide HW.out.drew
      have l0 := World.block_lt_of_cell? wr _ y0
      have l1 := World.block_lt_of_cell? wr _ y1
      have l2 := World.block_lt_of_cell? wr _ c1
      clear hv
      go_wp2
      go_region_held3 (fun w' => w'.cell? ⟨z, 0, none⟩ = some (.slice (some ⟨b, off, none⟩) vl vc) ∧ w'.cell? ⟨z, 1, none⟩ = some (.slice ad len cap) ∧ w'.cell? ⟨b, off + k * 2 + 1, none⟩ = some (.int .i64 v.2)) (first | exact ⟨y0, y1, c1⟩ | exact KY.out) ((go_at_call 62; (with_reducible refine Calls.mono CG.out ?_); rintro en w2 ⟨lv, rfl, o2, b2⟩; have KY : Hid (w2.cell? ⟨z, 0, none⟩ = some (.slice (some ⟨b, off, none⟩) vl vc) ∧ w2.cell? ⟨z, 1, none⟩ = some (.slice ad len cap) ∧ w2.cell? ⟨b, off + k * 2 + 1, none⟩ = some (.int .i64 v.2)) := ⟨(b2.cell l0).trans y0, (b2.cell l1).trans y1, (b2.cell l2).trans c1⟩))
      have bd : Below wr.heap.size wr w2 := ((Below.refl wr.heap.size wr).drew).trans b2
      have B2 := hide (HW.out.trans (bd.mono HW.out.size))
      have S2 : Hid (IHas wb w2 (.slice oa l.length oc) l) := ⟨oa, oc, rfl, HRW.out.below bd, own_below HOW.out bd, B2.out⟩
      obtain ⟨la, lc, e2, -, hrow⟩ := ISl.of (Sli.of o2) (by rw [allT_len]; unfold maxLen; omega) (Nat.le_refl _)
      rw [allT_len] at e2 hrow
      subst e2
      have HROW := hide hrow
      obtain ⟨L, hL⟩ : ∃ L, allT (rs.map ktell) v.2 = L := ⟨_, rfl⟩
      have HLL : Hid (L.length = 16) := by show _ = _; rw [← hL, allT_len]
      rw [hL] at HROW HR
      clear CG y0 y1 c0 c1 l0 l1 l2 HWD HW o2 b2 hrow hL bd KY HRW HOW HO
      go_wp2
      go_loopw [3, 6] (fun ov kv W => ∃ (m : Nat) (q : List Int), m ≤ 16 ∧ kv = .int .i64 m ∧ q.length ≤ 16 * k + m ∧ Hid (q = (L.take m).foldl insI l) ∧ Hid (IHas wb W ov q) ∧ Hid (Below w2.heap.size w2 W)) (fun _ kv _ => 16 - (intOf kv).toNat)
      case atStart => exact ⟨0, l, Nat.zero_le _, rfl, by omega, (by show _ = _; simp), S2, Below.refl _ _⟩
      case round =>
        obtain ⟨m, q, hm, rfl, hq, HQ, HO, HY⟩ := hrel
        obtain ⟨oa2, oc2, e, hrw, how, hbw⟩ := HO.out
        subst e
        by_cases hm16 : (m : Int) < 16
        · have hx := List.getElem?_eq_getElem (show m < L.length by have := HLL.out; omega)
          generalize L[m]'(by have := HLL.out; omega) = x at hx
          obtain ⟨lb, lo, e3, -, d0⟩ := (HROW.out.below HY.out).at hx
          subst e3
          have m0 : (0 : Int) ≤ m := by omega
          have HF := hide (fold_take (acc := l) hx)
          have CI := hide (sinsI oa2 q.length oc2 q x wr (by omega) hrw)
          have HBW := hide hbw
          clear hx hrw how hbw HO
          go_wp2_with fail
          refine CI.out.mono ?_
          rintro e w3 ⟨uv, rfl, o3, b3⟩
          have hlen := insI_len q x
          have HQ2 : Hid (insI q x = (L.take (m + 1)).foldl insI l) := by show _ = _; rw [HF.out, HQ.out]
          have HO2 : Hid (IHas wb w3 uv (insI q x)) := IHas.of (own_lower o3 HBW.out.size) (by unfold maxLen; omega) (HBW.out.trans (b3.mono HBW.out.size))
          have HY2 := hide (HY.out.trans (b3.mono HY.out.size))
          generalize insI q x = q2 at hlen HQ2 HO2
          clear CI b3 o3 HBW HF
          go_wp2
          go_roundw
          case rel => first | exact ⟨m + 1, q2, by omega, by go_num, by omega, HQ2, HO2, HY2⟩ | exact ⟨m + 1, q2, by omega, by go_num, by omega, HQ2, HO2⟩
          case measure => simp [intOf]; omega
        · have HQ2 : Hid (q = liveK (rs.map ktell) vs (k + 1)) := by
            have e : m = 16 := by omega
            have := HQ.out
            rw [e, List.take_of_length_le (by rw [HLL.out]; omega)] at this
            show _ = _
            rw [this, HR.out]
          clear hrw how hbw
          go_wp2
          go_roundw
          case rel => exact ⟨k + 1, q, by omega, by go_num, by omega, HQ2, HO⟩
          case measure => simp [intOf]; omega
    · have E : Hid (l = C) := by
        show _ = _
        rw [HL.out, ← HC.out, liveS, liveK, List.take_of_length_le (by have := HVL.out; omega)]
      have BE : Hid (Below w.heap.size w wr) := T0.out.1.trans (HW.out.mono T0.out.1.size)
      have OE : Hid (wr.ownsRow w.heap.size 3 1 (.slice oa l.length oc) l.length (icells l)) := own_lower HOW.out T0.out.1.size
      go_wp2
      go_ret
      refine ⟨_, rfl, ?_, BE.out⟩
      rw [← E.out]
      exact OE.out
end Go.Proofs.Ytcnaahajaaifjaa

/-
  spec.LiveOf by its contract.
-/
namespace Go.Proofs.Ytcnaahajaaifjaa
open Go.RowKit
open Words

theorem live_foldC : ∀ (l : List Int) (acc : List Int), (l.foldl insI acc).length ≤ acc.length + l.length := by
  intro l
  induction l with
  | nil => intro acc; simp
  | cons x l ih => intro acc; have := ih (insI acc x); have := insI_len acc x; simp only [List.foldl_cons, List.length_cons]; omega
theorem live_vols (kns : List Kn) : ∀ (vs : List (Int × Int)) (acc : List Int), (vs.foldl (fun acc v => (allT kns v.2).foldl insI acc) acc).length ≤ acc.length + 16 * vs.length := by
  intro vs
  induction vs with
  | nil => intro acc; simp
  | cons v vs ih =>
    intro acc
    have := ih ((allT kns v.2).foldl insI acc)
    have := live_foldC (allT kns v.2) acc
    have := allT_len kns v.2
    simp only [List.foldl_cons, List.length_cons]
    omega
theorem live_bound (s : Sto) : (liveS s).length ≤ 16 * s.vols.length := by
  have := live_vols s.kns s.vols []
  simpa [liveS] using this
theorem sliveOf : LiveC 26 := by
  rintro v ⟨vs, kns, nx⟩ w ⟨va, vl, vc, ad, len, cap, rs, rfl, h2, h3, h4, h5, h6, h7, h8⟩
  simp only at h2 h7
  subst h2
  exact slive va vl vc ad len cap nx vs rs w (by omega) (by omega) h7 h8
end Go.Proofs.Ytcnaahajaaifjaa

/-
  laws.sameInts: two rows of the same numbers.
-/
namespace Go.Proofs.Ytcnaahajaaifjaa
open Go.RowKit
open Words

set_option maxHeartbeats 400000 in
set_option maxRecDepth 100000 in
theorem sameIs_same (a b : Value) (M : List Int) (n : Nat) (B1 C1 B2 C2 : Nat) (w : World) (hn : M.length = n) (hM : n ≤ 1000000000000000000) (ha : Sli 3 B1 C1 a n (icells M) w) (hb : Sli 3 B2 C2 b n (icells M) w) :
    Calls Try.prog 25 #[a, b] w fun e w' => e = .returned (.bool true) ∧ Below w.heap.size w w' := by
  obtain ⟨ad, capa, rfl, a3⟩ := ha.form
  obtain ⟨bd, capb, rfl, b3⟩ := hb.form
  have HSA := hide ha
  have HSB := hide hb
  have A3 := hide a3
  have B3 := hide b3
  have HN := hide hn
  clear ha hb a3 b3 hn
  go_enter Try.func25, Try.ntmps25
  go_wp2
  go_loopw [5] (fun iv wr => ∃ k : Nat, k ≤ n ∧ iv = .int .i64 k ∧ Hid (∃ q, wr = w.drewN q)) (fun iv _ => n - (intOf iv).toNat)
  case atStart => exact ⟨0, Nat.zero_le _, rfl, ⟨0, rfl⟩⟩
  case round =>
    obtain ⟨k, hk, rfl, HQ⟩ := hrel
    obtain ⟨q, hq⟩ := HQ.out
    subst hq
    clear HQ
    by_cases hlt : (k : Int) < n
    · obtain ⟨ga, e, -, -⟩ := A3.out (by omega)
      subst e
      obtain ⟨gb, e, -, -⟩ := B3.out (by omega)
      subst e
      obtain ⟨x, hx⟩ : ∃ x, M[k]? = some x := ⟨_, List.getElem?_eq_getElem (by have := HN.out; omega)⟩
      have c1 := HSA.out.flt.cell (icells_get hx)
      have c2 := HSB.out.flt.cell (icells_get hx)
      have hxx : (x != x) = false := by simp
      have k0 : (0 : Int) ≤ k := by omega
      clear hx
      go_wp2
      go_quiet (fail)
      go_wp2
      go_roundw
      case rel => exact ⟨k + 1, by omega, by go_num, ⟨_, rfl⟩⟩
      case measure => simp [intOf]; omega
    · go_wp2
      go_ret
      exact ⟨rfl, below_drewN (Below.refl _ _) _⟩
end Go.Proofs.Ytcnaahajaaifjaa

/-
  LiveOf over what a drawn law holds.
-/
namespace Go.Proofs.Ytcnaahajaaifjaa
open Go.RowKit
open Words

theorem Sli.adr {t : TypeId} {lo hi n c : Nat} {a : Option Addr} {xs : List Value} {w : World} (h : Sli t lo hi (.slice a n c) n xs w) (h0 : 0 < n) : ∃ g, a = some ⟨g, 0, none⟩ ∧ lo ≤ g := by
  obtain ⟨a', c', e, hh⟩ := h.form
  injection e with e1 e2 e3
  obtain ⟨g, e4, e5, -⟩ := hh h0
  exact ⟨g, by rw [e1, e4], e5⟩
theorem glive_tk {f : Nat} (HC : LiveC f) {w wi : World} {hs : List Hold} {lo hi n : Nat} {v : Value} {s : Sto} {L : List Int} (hL : liveS s = L) (hn : L.length = n) (T : Tk w wi hs) (n1 : Nat) (ho : s.Fit) (e1 : hs[n1]? = some (lo, hi, Sts lo hi v s)) :
    Calls Try.prog f #[v] wi fun e w' => ∃ a c, e = .returned (.slice a n c) ∧ Tk w w' ((wi.heap.size, w'.heap.size, Sli 3 wi.heap.size w'.heap.size (.slice a n c) n (icells L)) :: hs) ∧ wi.heap.size ≤ w'.heap.size := by
  refine (HC v s wi ((T.get n1 e1).rd ho (T.hi n1 e1))).mono ?_
  rintro e w' ⟨u, rfl, hu, hb⟩
  rw [hL] at hu
  have hS := Sli.of hu
  rw [hn] at hS
  obtain ⟨a, c, rfl, -⟩ := hS.form
  exact ⟨a, c, rfl, T.add hb (Sli.loc _ _ _ _ _ _) hS, hb.size⟩
end Go.Proofs.Ytcnaahajaaifjaa
