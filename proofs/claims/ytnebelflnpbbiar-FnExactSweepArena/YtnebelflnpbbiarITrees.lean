/-
  impl's forests: the trees of some roots.
-/
import Derived.Test.YtnebelflnpbbiarIPut
import Derived.Test.YtnebelflnpbbiarIKnots
namespace Go.Proofs.Ytnebelflnpbbiar
open Go.RowKit
open Words

/-- Trees, each in its block. -/
def TrsAt (W : World) (bs : List Nat) (L : List Kn) (ts : List Nat) (rs : List Int) : Prop := ts.length = rs.length ∧ ∀ (i t : Nat) (r : Int), ts[i]? = some t → rs[i]? = some r → TreeAt W t bs L r
theorem TrsAt.below {W W' : World} {bs ts : List Nat} {L : List Kn} {rs : List Int} (h : TrsAt W bs L ts rs) (hb : Below W.heap.size W W') : TrsAt W' bs L ts rs := ⟨h.1, fun i t r h1 h2 => (h.2 i t r h1 h2).below hb⟩
theorem TreeAt.grown {W y : World} {b : Nat} {bs : List Nat} {L : List Kn} {r : Int} {row : Option Nat} (h : TreeAt W b bs L r) (hg : W.grownBy y row) (hr : ∀ g, row = some g → ∃ cs, W.heap[g]? = some (.cells cs 59 (0, 0))) : TreeAt y b bs L r := by
  refine ⟨h.1.grown hg hr, ?_⟩
  rcases h.2 with ⟨e, hx⟩ | q
  · refine .inl ⟨e, (hg.block b hx.lt (fun e => ?_)).trans hx.1, hx.2⟩
    obtain ⟨cs, q⟩ := hr b e.symm
    rw [hx.1] at q
    injection q with q
    injection q with _ q
    simp at q
  · exact .inr q
/-- The trees under way. -/
def TSt (w W : World) (m : Nat) (bs : List Nat) (L : List Kn) (rs : List Int) (ts : List Nat) : Prop :=
  W.ownsRow w.heap.size 59 1 (.slice (some ⟨w.heap.size, 0, none⟩) m m) m (bcellsP ts ++ List.replicate (m - ts.length) (.pointer none)) ∧ (∀ (i t : Nat) (r : Int), ts[i]? = some t → rs[i]? = some r → TreeAt W t bs L r ∧ (r = -1 → w.heap.size ≤ t)) ∧ rs.take ts.length = (rs.take ts.length).filter (rootB L) ∧ Below w.heap.size w W
/-- What treesAt answers. -/
def TsOut (w : World) (bs : List Nat) (L : List Kn) (rs : List Int) (e : Ending) (w' : World) : Prop :=
  Below w.heap.size w w' ∧ ((rs.all (rootB L) = true ∧ ∃ ts c, e = .returned (.tuple #[.slice (some ⟨w.heap.size, 0, none⟩) rs.length c, .bool true]) ∧ w'.ownsRow w.heap.size 59 1 (.slice (some ⟨w.heap.size, 0, none⟩) rs.length c) ts.length (bcellsP ts) ∧ TrsAt w' bs L ts rs ∧ ∀ (i t : Nat), ts[i]? = some t → rs[i]? = some (-1) → w.heap.size ≤ t) ∨ (rs.all (rootB L) = false ∧ e = .returned (.tuple #[.slice none 0 0, .bool false])))

set_option maxHeartbeats 1000000 in
set_option maxRecDepth 100000 in
theorem itreesAt (fa : Option Addr) (n c : Nat) (bs : List Nat) (L : List Kn) (ra : Option Addr) (m rc : Nat) (rs : List Int) (w : World) (hm : m ≤ 1048576) (hr : PRow w fa n bs) (hf : FAt w bs (lksOf bs L)) (hk : IRow w ra m rs) :
    Calls Try.prog 48 #[.slice fa n c, .slice ra m rc] w (TsOut w bs L rs) := by
  obtain ⟨i0, hi, hz0, hz1, hz2⟩ := info_parts infoPt
  have HR := hide hr
  have HF := hide hf
  have HK := hide hk
  have HM := hide hk.1
  clear hr hf hk
  go_enter Try.func48, Try.ntmps48
  go_wp2_with (at_make; refine wpList_make_full _ rfl _ _ 53 rfl w.heap.size 59 i0 (.pointer none) 1 Try.underlying53 hi hz0 hz1 .i64 .i64 _ _ m rfl rfl rfl rfl (by rw [hz2]; omega) (by unfold maxLen; omega) (Nat.le_refl _) ?_)
  intro w1 hown hgrow
  rw [toList_madeCells_one] at hown
  have BG : Below w.heap.size w w1 := (Below.refl _ _).grown hgrow (Nat.le_refl _) (fun k hk => by cases hk)
  have S0 : Hid (TSt w w1 m bs L rs []) := ⟨hown, (fun i t r h => by simp at h), by simp, BG⟩
  clear hown hgrow BG hi hz0 hz1 hz2
  go_wp2
  go_loopw [14] (fun iv W => ∃ (k : Nat) (ts : List Nat), k ≤ m ∧ iv = .int .i64 k ∧ Hid (ts.length = k) ∧ Hid (TSt w W m bs L rs ts)) (fun iv _ => m - (intOf iv).toNat)
  case atStart => exact ⟨0, [], Nat.zero_le _, rfl, rfl, S0⟩
  case round =>
    obtain ⟨k, ts, hk, rfl, HTL, HS⟩ := hrel
    clear S0
    by_cases hlt : (k : Int) < m
    · obtain ⟨r, hr⟩ : ∃ r, rs[k]? = some r := ⟨_, List.getElem?_eq_getElem (by have := HM.out; omega)⟩
      have HW : Hid (Below w.heap.size w wr) := HS.out.2.2.2
      obtain ⟨rb, ro, e, -, hrc⟩ := (HK.out.below HW.out).at hr
      subst e
      have k0 : (0 : Int) ≤ k := by omega
      have HRR := hide hr
      clear hr
      go_wp2_with fail
      refine (ftree fa n c bs L r wr (HR.out.below HW.out) (HF.out.below HW.out)).mono ?_
      rintro e w2 ⟨b2, h2⟩
      have B2 := hide b2
      have OW2 := hide (own_below HS.out.1 b2)
      have gl := (own_kind OW2.out w.heap.size rfl).2.1
      have oc : w2.cell? ⟨w.heap.size, k, none⟩ = some (.pointer none) := by
        rw [← addr_at]
        refine OW2.out.cells (g := w.heap.size) rfl k _ ?_
        rw [List.getElem?_append_right (by rw [bcellsP_len, HTL.out]; exact Nat.le_refl _), bcellsP_len, HTL.out, Nat.sub_self, List.getElem?_replicate, if_pos (by omega)]
      have of : w2.frozen? ⟨w.heap.size, k, none⟩ = false := by
        obtain ⟨-, -, cs, q⟩ := own_kind OW2.out w.heap.size rfl
        exact frozen_of_row _ _ k _ _ q
      clear b2
      rcases h2 with ⟨hR, b, rfl, hT, hlo⟩ | ⟨hR, rfl⟩
      · have NX : Hid (TSt w (w2.setCell ⟨w.heap.size, k, none⟩ (.pointer (some ⟨b, 0, none⟩))) m bs L rs (ts ++ [b])) := by
          obtain ⟨-, -, cs, q⟩ := own_kind OW2.out w.heap.size rfl
          have hgr := grown_cell w2 w.heap.size k (.pointer (some ⟨b, 0, none⟩))
          have hrk : ∀ g, some w.heap.size = some g → ∃ cs, w2.heap[g]? = some (.cells cs 59 (0, 0)) := fun g e => by cases e; exact ⟨cs, q⟩
          have hlt2 : (ts ++ [b]).length = k + 1 := by rw [List.length_append, HTL.out]; rfl
          refine ⟨?_, ?_, ?_, ((HW.out.trans (B2.out.mono HW.out.size)).setCell (p := ⟨w.heap.size, k, none⟩) (Nat.le_refl _) _)⟩
          · have := fown_set OW2.out rfl k (.pointer (some ⟨b, 0, none⟩))
            rw [HTL.out, zeros_set _ _ _ _ _ (by rw [bcellsP_len, HTL.out]) (by omega)] at this
            rw [hlt2, ← bcellsP_snoc]
            exact this
          · intro i t r' h1 h3
            by_cases hi : i < ts.length
            · rw [List.getElem?_append_left hi] at h1
              exact ⟨((HS.out.2.1 i t r' h1 h3).1.below B2.out).grown hgr hrk, (HS.out.2.1 i t r' h1 h3).2⟩
            · have hil := (List.getElem?_eq_some_iff.1 h1).1
              rw [hlt2] at hil
              have e : i = ts.length := by have := HTL.out; omega
              subst e
              simp at h1
              subst h1
              rw [HTL.out, HRR.out] at h3
              cases h3
              exact ⟨hT.grown hgr hrk, fun e => by have := hlo e; have := HW.out.size; omega⟩
          · rw [hlt2, List.take_add_one, HRR.out, List.filter_append]
            have := HS.out.2.2.1
            rw [HTL.out] at this
            rw [← this]
            simp [hR]
        have NL : Hid ((ts ++ [b]).length = k + 1) := by show _ = _; rw [List.length_append, HTL.out]; rfl
        have oc3 : (w2.setCell ⟨w.heap.size, k, none⟩ (.pointer (some ⟨b, 0, none⟩))).cell? ⟨w.heap.size, k, none⟩ = some (.pointer (some ⟨b, 0, none⟩)) := World.cell?_setCell_same _ _ _ oc
        generalize ts ++ [b] = ts2 at NX NL
        unfold ptr
        clear hT hR HS HTL OW2 B2 HW
        go_wp2
        go_roundw
        case rel => exact ⟨k + 1, ts2, by omega, by go_num, NL, NX⟩
        case measure => simp [intOf]; omega
      · have oc3 : (w2.setCell ⟨w.heap.size, k, none⟩ (.pointer none)).cell? ⟨w.heap.size, k, none⟩ = some (.pointer none) := World.cell?_setCell_same _ _ _ oc
        have FIN : Hid (TsOut w bs L rs (.returned (.tuple #[.slice none 0 0, .bool false])) (w2.setCell ⟨w.heap.size, k, none⟩ (.pointer none))) := by
          refine ⟨(HW.out.trans (B2.out.mono HW.out.size)).setCell (p := ⟨w.heap.size, k, none⟩) (Nat.le_refl _) _, .inr ⟨?_, rfl⟩⟩
          rw [List.all_eq_false]
          exact ⟨r, List.mem_of_getElem? HRR.out, by rw [hR]; decide⟩
        clear hR HS HTL OW2 B2 HW
        go_wp2
        go_ret2
        exact FIN.out
    · have ek : k = m := by omega
      subst ek
      have FIN : Hid (TsOut w bs L rs (.returned (.tuple #[.slice (some ⟨w.heap.size, 0, none⟩) k k, .bool true])) wr) := by
        obtain ⟨h1, h2, h3, h4⟩ := HS.out
        have hrl := HM.out
        have htl := HTL.out
        refine ⟨h4, .inl ⟨?_, ts, k, by rw [hrl], ?_, ⟨by omega, fun i t r q1 q2 => (h2 i t r q1 q2).1⟩, fun i t q1 q2 => (h2 i t _ q1 q2).2 rfl⟩⟩
        · rw [htl, List.take_of_length_le (by omega)] at h3
          rw [List.all_eq_true]
          intro r hr
          rw [h3] at hr
          exact (List.mem_filter.1 hr).2
        · rw [htl, Nat.sub_self, List.replicate_zero, List.append_nil] at h1
          rw [hrl, htl]
          exact h1
      clear HS
      go_wp2
      go_ret2
      exact FIN.out
end Go.Proofs.Ytnebelflnpbbiar
