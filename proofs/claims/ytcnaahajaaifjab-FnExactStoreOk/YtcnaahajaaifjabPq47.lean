/-
  ICopS; IRootsI; ILeafW
-/
import Derived.Test.YtcnaahajaaifjabOpS
import Derived.Test.YtcnaahajaaifjabITree
/-
  impl.copiedStore, closed.
-/
namespace Go.Proofs.Ytcnaahajaaifjab
open Go.RowKit
open Words

/-- A store that is worked on, swept: its knots are new. -/
def OpT (w W : World) (p : Nat) (s : Sto) : Prop :=
  Below w.heap.size w W ∧ w.heap.size ≤ p ∧ p < W.heap.size ∧ ∃ kv vv lo1 hi1 lo2 hi2, W.heap[p]? = some (.cells #[kv, vv, .int .i64 s.next] 94 (0, 0)) ∧ Sli 57 lo1 hi1 vv s.vols.length (vlcells s.vols) W ∧ Kns lo2 hi2 kv s.kns W ∧ w.heap.size ≤ lo1 ∧ hi1 ≤ W.heap.size ∧ w.heap.size ≤ lo2 ∧ hi2 ≤ W.heap.size ∧ (hi1 ≤ lo2 ∨ hi2 ≤ lo1)
end Go.Proofs.Ytcnaahajaaifjab

/-
  roots, of a store that is worked on.
-/
namespace Go.Proofs.Ytcnaahajaaifjab
open Go.RowKit
open Words

set_option maxHeartbeats 1000000 in
set_option maxRecDepth 100000 in
theorem irootsO (p : Nat) (s : Sto) (w W : World) (hn : s.vols.length ≤ 1048576) (h : OpS w W p s) :
    Calls Try.prog 72 #[.pointer (some ⟨p, 0, none⟩)] W (IOut W (rootsV s.vols)) := by
  obtain ⟨i0, hi, hz0, hz1, hz2⟩ := info_parts infoInt
  obtain ⟨ad, len, cap, rs, va, vl, vc, hc, e1, hl, hll, hk, hv, ho, hvl, hkh⟩ := h.open
  obtain ⟨c0, c1, c2, -⟩ := ops_cells hc
  have HO := hide h
  have HVL := hide hvl
  have HP := hide h.lt
  have HVR := hide hv
  rw [hvl] at hn
  clear h hc e1 hl hll hk hv ho hvl hkh c0 c2
  go_enter Try.func72, Try.ntmps72
  go_wp2_with (at_make; refine wpList_make_full _ rfl _ _ 47 rfl W.heap.size 3 i0 (.int .i64 0) 1 Try.underlying47 hi hz0 hz1 .i64 .i64 _ _ vl rfl rfl rfl rfl (by rw [hz2]; omega) (by unfold maxLen; omega) (by simp) ?_)
  intro w1 hown hgrow
  rw [toList_madeCells_one, icells_rep] at hown
  have B1 : Hid (Below W.heap.size W w1) := (Below.refl _ _).grown hgrow (Nat.le_refl _) (fun k hk => by cases hk)
  have O1 := hide hown
  have d1 := (B1.out.cell (show p < W.heap.size from HP.out)).trans c1
  have VR1 := hide (HVR.out.below B1.out)
  have P1 : Hid (p < w1.heap.size) := by have := B1.out.size; have := HP.out; show _ < _; omega
  have HG : Hid (W.heap.size < w1.heap.size) := (own_kind hown W.heap.size rfl).2.1
  clear hown hgrow hi hz0 hz1 hz2
  obtain ⟨g, hg⟩ : ∃ g, W.heap.size = g := ⟨_, rfl⟩
  have HGW := hide hg
  rw [hg] at O1 HG ⊢
  clear hg c1
  have ST : Hid (w1.ownsRow g 3 1 (.slice (some ⟨g, 0, none⟩) vl vl) vl (icells ((rootsV s.vols).take 0 ++ (List.replicate vl 0).drop 0)) ∧ Below W.heap.size W w1) := ⟨O1.out, B1.out⟩
  clear O1
  go_wp2_with fail
  go_loopw [17] (fun kv V => ∃ k : Nat, k ≤ vl ∧ kv = .int .i64 k ∧ Hid (V.ownsRow g 3 1 (.slice (some ⟨g, 0, none⟩) vl vl) vl (icells ((rootsV s.vols).take k ++ (List.replicate vl 0).drop k)) ∧ Below W.heap.size W V)) (fun kv _ => vl - (intOf kv).toNat)
  case atStart => exact ⟨0, Nat.zero_le _, rfl, ST⟩
  case round =>
    obtain ⟨k, hk, rfl, HS⟩ := hrel
    clear ST
    by_cases hlt : (k : Int) < vl
    · have hkv : k < vl := by omega
      obtain ⟨v, hv⟩ : ∃ v, s.vols[k]? = some v := ⟨_, List.getElem?_eq_getElem (by have := HVL.out; omega)⟩
      obtain ⟨b, off, e, hb, c0, c1⟩ := (HVR.out.below HS.out.2).at hv
      subst e
      have k0 : (0 : Int) ≤ k := by omega
      have oc : wr.cell? ⟨g, k, none⟩ = some (.int .i64 0) := by
        rw [← addr_at]
        refine HS.out.1.cells (g := g) rfl k _ (icells_get ?_)
        rw [part_at (by rw [rootsV, List.length_map, HVL.out]; exact hkv), List.getElem?_replicate, if_pos hkv]
      have of : wr.frozen? ⟨g, k, none⟩ = false := by
        obtain ⟨-, -, cs, q⟩ := own_kind HS.out.1 g rfl
        exact frozen_of_row _ _ k _ _ q
      obtain ⟨x0, x1⟩ := v
      simp only at c0 c1
      have hgw : g < wr.heap.size := (own_kind HS.out.1 g rfl).2.1
      have BA2 : Below wr.heap.size wr (wr.alloc (.cells #[.int .i64 x0, .int .i64 x1] 57)) := (Below.refl _ _).alloc (Nat.le_refl _) _
      have oc2 := (BA2.cell (show g < wr.heap.size from hgw)).trans oc
      have of2 := (BA2.frozen (p := ⟨g, k, none⟩) (show g < wr.heap.size from hgw)).trans of
      clear BA2
      have NX : Hid (((wr.setCell ⟨g, k, none⟩ (.int .i64 x1)).alloc (.cells #[.int .i64 x0, .int .i64 x1] 57)).ownsRow g 3 1 (.slice (some ⟨g, 0, none⟩) vl vl) vl (icells ((rootsV s.vols).take (k + 1) ++ (List.replicate vl 0).drop (k + 1))) ∧ Below W.heap.size W ((wr.setCell ⟨g, k, none⟩ (.int .i64 x1)).alloc (.cells #[.int .i64 x0, .int .i64 x1] 57))) := by
        have hg := HGW.out
        have h1 := fown_set HS.out.1 rfl k (.int .i64 x1)
        rw [icells_set, part_set (v := x1) (by rw [rootsV, List.getElem?_map, hv]; rfl) (by rw [rootsV, List.length_map, HVL.out]; simp)] at h1
        have h2 : Below W.heap.size W (wr.setCell ⟨g, k, none⟩ (.int .i64 x1)) := HS.out.2.setCell (p := ⟨g, k, none⟩) (by show _ ≤ g; omega) _
        exact ⟨own_below h1 ((Below.refl _ _).alloc (Nat.le_refl _) _), h2.alloc h2.size _⟩
      clear hv HS
      go_wp2
      go_roundw
      case rel => exact ⟨k + 1, by omega, by go_num, NX⟩
      case measure => simp [intOf]; omega
    · have ek : k = vl := by omega
      subst ek
      have FIN : Hid (wr.ownsRow W.heap.size 3 1 (.slice (some ⟨g, 0, none⟩) k k) (rootsV s.vols).length (icells (rootsV s.vols)) ∧ Below W.heap.size W wr) := by
        refine ⟨?_, HS.out.2⟩
        have h1 := HS.out.1
        have e : (rootsV s.vols).length = k := by rw [rootsV, List.length_map, HVL.out]
        rw [List.take_of_length_le (by omega)] at h1
        have e2 : (List.replicate k (0 : Int)).drop k = [] := by simp
        rw [e2, List.append_nil] at h1
        rw [e, HGW.out]
        exact h1
      clear HS
      go_wp2
      go_ret
      exact ⟨_, rfl, FIN.out.1, FIN.out.2⟩
end Go.Proofs.Ytcnaahajaaifjab

/-
  impl's linked knots: a leaf with one more number.
-/
namespace Go.Proofs.Ytcnaahajaaifjab
open Go.RowKit
open Words

theorem set4 (a b c d n : Int) (t : Nat) (h : t < 4) : True → (t = 0 ∧ [a, b, c, d].set t n = [n, b, c, d]) ∨ (t = 1 ∧ [a, b, c, d].set t n = [a, n, c, d]) ∨ (t = 2 ∧ [a, b, c, d].set t n = [a, b, n, d]) ∨ (t = 3 ∧ [a, b, c, d].set t n = [a, b, c, n]) := by
  intro _
  match t, h with
  | 0, _ => exact .inl ⟨rfl, rfl⟩
  | 1, _ => exact .inr (.inl ⟨rfl, rfl⟩)
  | 2, _ => exact .inr (.inr (.inl ⟨rfl, rfl⟩))
  | 3, _ => exact .inr (.inr (.inr ⟨rfl, rfl⟩))

end Go.Proofs.Ytcnaahajaaifjab
