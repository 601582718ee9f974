/-
  IClone; ICopy; IAt; ISmall; INext; IBlk; IOk; IUse; After; IProg
-/
import Derived.Test.YtiicghepilbgfaaGreatDoorPk30
import Derived.Test.YtiicghepilbgfaaGreatDoorShelf
import Derived.Test.YtiicghepilbgfaaGreatDoorPk33
import Derived.Test.YtiicghepilbgfaaGreatDoorPk29
import Derived.Test.YtiicghepilbgfaaGreatDoorPk22
import Derived.Test.YtiicghepilbgfaaGreatDoorPk31
/-
  strings.Clone.
-/
namespace Go.Proofs.YtiicghepilbgfaaGreatDoor
open Go.RowKit

theorem fclone_any (s : ByteArray) (w : World) (hs : s.size ≤ 1048576) :
    Calls Tryz.prog 147 #[.string s] w fun e w' => e = .returned (.string s) ∧ Below w.heap.size w w' := by
  go_enter Tryz.func147, Tryz.ntmps147
  go_wp2_with fail
  refine (Tryz.stringslite_Clone s _ (by omega)).mono ?_
  rintro e w' ⟨rfl, hb⟩
  go_wp2
  go_ret
  exact ⟨rfl, hb⟩
end Go.Proofs.YtiicghepilbgfaaGreatDoor

/-
  impl.copiedFlash.
-/
namespace Go.Proofs.YtiicghepilbgfaaGreatDoor
open Go.RowKit

end Go.Proofs.YtiicghepilbgfaaGreatDoor

/-
  (impl.Flash).blockAt, (*impl.Block).leafAt, (impl.Flash).blockInUse.
-/
namespace Go.Proofs.YtiicghepilbgfaaGreatDoor
open Go.RowKit

set_option maxHeartbeats 400000 in
set_option maxRecDepth 100000 in
theorem iat_in (g n cap k : Nat) (w : World) (_hn : n ≤ 1048576) (hk : k < n) :
    Calls Tryz.prog 145 #[.agg #[.slice (some ⟨g, 0, none⟩) n cap], .int .i64 k] w fun e w' => e = .returned (.pointer (some ⟨g, k * 3, none⟩)) ∧ Below w.heap.size w w' := by
  have HB := hide ((Below.refl w.heap.size w).alloc (Nat.le_refl _) (.cells #[.slice (some ⟨g, 0, none⟩) n cap] 49))
  have h1 : (0 : Int) ≤ k := by omega
  have h2 : (k : Int) < n := by omega
  go_enter Tryz.func145, Tryz.ntmps145
  go_wp2
  go_ret
  exact ⟨rfl, HB.out⟩
set_option maxHeartbeats 400000 in
set_option maxRecDepth 100000 in
theorem iat_out (ad : Option Addr) (n cap : Nat) (b : Int) (w : World) (_hn : n ≤ 1048576) (hb : ¬ (0 ≤ b ∧ b ≤ (n : Int) - 1)) :
    Calls Tryz.prog 145 #[.agg #[.slice ad n cap], .int .i64 b] w fun e w' => e = .returned (.pointer none) ∧ Below w.heap.size w w' := by
  have HB := hide ((Below.refl w.heap.size w).alloc (Nat.le_refl _) (.cells #[.slice ad n cap] 49))
  by_cases h0 : b < 0
  · go_enter Tryz.func145, Tryz.ntmps145
    go_wp2
    go_ret
    exact ⟨rfl, HB.out⟩
  · have h1 : (n : Int) ≤ b := by omega
    clear hb
    go_enter Tryz.func145, Tryz.ntmps145
    go_wp2
    go_ret
    exact ⟨rfl, HB.out⟩
set_option maxHeartbeats 400000 in
set_option maxRecDepth 100000 in
theorem ilat_in (g o gl n cap k : Nat) (w : World) (_hn : n ≤ 1048576) (hk : k < n) (hc : w.cell? ⟨g, o + 2, none⟩ = some (.slice (some ⟨gl, 0, none⟩) n cap)) :
    Calls Tryz.prog 146 #[.pointer (some ⟨g, o, none⟩), .int .i64 k] w fun e w' => e = .returned (.pointer (some ⟨gl, k * 2, none⟩)) ∧ w' = w := by
  have h1 : (0 : Int) ≤ k := by omega
  have h2 : (k : Int) < n := by omega
  go_enter Tryz.func146, Tryz.ntmps146
  go_wp2
  go_ret
  exact ⟨rfl, rfl⟩
set_option maxHeartbeats 400000 in
set_option maxRecDepth 100000 in
theorem ilat_off (g o gl lo n cap k : Nat) (w : World) (_hn : n ≤ 1048576) (hk : k < n) (hc : w.cell? ⟨g, o + 2, none⟩ = some (.slice (some ⟨gl, lo, none⟩) n cap)) :
    Calls Tryz.prog 146 #[.pointer (some ⟨g, o, none⟩), .int .i64 k] w fun e w' => e = .returned (.pointer (some ⟨gl, lo + k * 2, none⟩)) ∧ w' = w := by
  have h1 : (0 : Int) ≤ k := by omega
  have h2 : (k : Int) < n := by omega
  go_enter Tryz.func146, Tryz.ntmps146
  go_wp2
  go_ret
  exact ⟨rfl, rfl⟩
set_option maxHeartbeats 400000 in
set_option maxRecDepth 100000 in
theorem ilat_out (g o n cap : Nat) (ad : Option Addr) (b : Int) (w : World) (_hn : n ≤ 1048576) (hb : ¬ (0 ≤ b ∧ b ≤ (n : Int) - 1)) (hc : w.cell? ⟨g, o + 2, none⟩ = some (.slice ad n cap)) :
    Calls Tryz.prog 146 #[.pointer (some ⟨g, o, none⟩), .int .i64 b] w fun e w' => e = .returned (.pointer none) ∧ w' = w := by
  by_cases h0 : b < 0
  · go_enter Tryz.func146, Tryz.ntmps146
    go_wp2
    go_ret
    exact ⟨rfl, rfl⟩
  · have h1 : (n : Int) ≤ b := by omega
    clear hb
    go_enter Tryz.func146, Tryz.ntmps146
    go_wp2
    go_ret
    exact ⟨rfl, rfl⟩
end Go.Proofs.YtiicghepilbgfaaGreatDoor

/-
  impl.isBlockCount, impl.fillsLeaf, (*impl.Leaf).isRight.
-/
namespace Go.Proofs.YtiicghepilbgfaaGreatDoor
open Go.RowKit

theorem empty_size (t : ByteArray) : t.toList.isEmpty = decide (t.size = 0) := by
  rw [Lib.toList_data]
  have hsz : t.size = t.data.toList.length := rfl
  cases hc : t.data.toList with
  | nil => rw [hc] at hsz; exact (decide_eq_true hsz).symm
  | cons a l => rw [hc] at hsz; exact (decide_eq_false (by simp only [List.length_cons] at hsz; omega)).symm
def fillsP (t : ByteArray) : Bool := decide ((1 : Int) ≤ t.size ∧ (t.size : Int) ≤ 120)
end Go.Proofs.YtiicghepilbgfaaGreatDoor

/-
  impl.NextBlank.
-/
namespace Go.Proofs.YtiicghepilbgfaaGreatDoor
open Go.RowKit

end Go.Proofs.YtiicghepilbgfaaGreatDoor

/-
  (*impl.Block).isRight.
-/
namespace Go.Proofs.YtiicghepilbgfaaGreatDoor
open Go.RowKit


end Go.Proofs.YtiicghepilbgfaaGreatDoor

/-
  impl.FlashOk.
-/
namespace Go.Proofs.YtiicghepilbgfaaGreatDoor
open Go.RowKit

end Go.Proofs.YtiicghepilbgfaaGreatDoor

/-
  (impl.Flash).blockInUse.
-/
namespace Go.Proofs.YtiicghepilbgfaaGreatDoor
open Go.RowKit

/-- Block b is there, and not bad, and the flash is right. -/
def useP (bs : List Bk) (b : Int) : Prop := flOk bs = true ∧ 0 ≤ b ∧ ∃ r, bs[b.toNat]? = some r ∧ r.1 = false
end Go.Proofs.YtiicghepilbgfaaGreatDoor

/-
  Where a function of the program stands that has copied the flash: the result's cell, the copy's cell, and the copy.
-/
namespace Go.Proofs.YtiicghepilbgfaaGreatDoor
open Go.RowKit

def After (w w' : World) (g2 : Nat) (v : Value) (bs : List Bk) : Prop :=
  w'.heap[w.heap.size + 1]? = some (.cells #[.slice none 0 0] 49 (0, 0)) ∧ w'.heap[g2]? = some (.cells #[v] 49 (0, 0)) ∧ FlashOf w' (w.heap.size + 2) v bs ∧ Below w.heap.size w w'
theorem After.below {w w' w'' : World} {g2 : Nat} {v : Value} {bs : List Bk} (h : After w w' g2 v bs) (hb : Below w'.heap.size w' w'') : After w w'' g2 v bs := by
  obtain ⟨h1, h2, h3, h4⟩ := h
  exact ⟨(hb.block _ (Array.getElem?_eq_some_iff.1 h1).1).trans h1, (hb.block _ (Array.getElem?_eq_some_iff.1 h2).1).trans h2, h3.below hb, h4.trans (hb.mono h4.size)⟩
theorem after_start {w w1 : World} {arg v : Value} {bs : List Bk} (fo : FlashOf w1 (w.heap.size + 2) v bs) (b1 : Below (w.heap.size + 2) ((w.alloc (.cells #[arg] 49)).alloc (.cells #[.slice none 0 0] 49)) w1) : After w (w1.alloc (.cells #[v] 49)) w1.heap.size v bs := by
  have hb0 := ((Below.refl w.heap.size w).alloc (Nat.le_refl _) (.cells #[arg] 49)).alloc (by simp) (.cells #[.slice none 0 0] 49)
  have r1 := heap_alloc_new (w.alloc (.cells #[arg] 49)) (.cells #[.slice none 0 0] 49)
  rw [show (w.alloc (.cells #[arg] 49)).heap.size = w.heap.size + 1 by simp] at r1
  have hs := b1.size
  simp at hs
  have b2 := (Below.refl w1.heap.size w1).alloc (Nat.le_refl _) (.cells #[v] 49)
  exact ⟨(b2.block _ (by omega)).trans ((b1.block _ (by omega)).trans r1), heap_alloc_new w1 _, fo.below b2, (hb0.trans (b1.mono (by omega))).trans (b2.mono (by omega))⟩
theorem tell_get {rs ss : List Rw} (h : rs.map tellOf = ss.map tellOf) (k : Nat) (r : Rw) (hr : rs[k]? = some r) : ∃ s, ss[k]? = some s ∧ tellOf r = tellOf s := by
  have h1 := congrArg (fun l : List Bk => l[k]?) h
  simp only [List.getElem?_map, hr, Option.map_some] at h1
  cases hs : ss[k]? with
  | none => rw [hs] at h1; cases h1
  | some s =>
    rw [hs] at h1
    exact ⟨s, rfl, by simpa using h1⟩
theorem tell_lens {ss rs : List Rw} (h : ss.map tellOf = rs.map tellOf) (hl : rs.length ≤ 1048576) (hll : ∀ r ∈ rs, r.2.2.2.length ≤ 1048576) : ss.length ≤ 1048576 ∧ ∀ r ∈ ss, r.2.2.2.length ≤ 1048576 := by
  have h1 := congrArg List.length h
  simp only [List.length_map] at h1
  refine ⟨by omega, fun r hr => ?_⟩
  obtain ⟨k, hk, rfl⟩ := List.getElem_of_mem hr
  obtain ⟨s, hs, e⟩ := tell_get h k _ (List.getElem?_eq_getElem hk)
  have h2 := congrArg (fun x : Bk => x.2.2.length) e
  simp only [tellOf] at h2
  rw [h2]
  exact hll s (List.mem_of_getElem? hs)
theorem tell_tx {ss rs : List Rw} (h : ss.map tellOf = rs.map tellOf) (hx : TxB rs) : TxB ss := by
  intro r hr
  obtain ⟨k, hk, rfl⟩ := List.getElem_of_mem hr
  obtain ⟨s, hs, e⟩ := tell_get h k _ (List.getElem?_eq_getElem hk)
  have h2 := congrArg (fun x : Bk => x.2.2) e
  simp only [tellOf] at h2
  rw [h2]
  exact hx s (List.mem_of_getElem? hs)
theorem use_yes {ss : List Rw} {b : Int} (h : useP (ss.map tellOf) b) : ∃ (k : Nat) (s : Rw), b = k ∧ ss[k]? = some s ∧ s.1 = false := by
  obtain ⟨-, h0, r, hr, hf⟩ := h
  rw [List.getElem?_map] at hr
  obtain ⟨s, hs, rfl⟩ := Option.map_eq_some_iff.1 hr
  exact ⟨b.toNat, s, by omega, hs, hf⟩
theorem flOk_four {bs : List Bk} {b : Bk} (h : flOk bs = true) (hb : b ∈ bs) : b.2.2.length = 4 := by
  simp only [flOk, Bool.and_eq_true, List.all_eq_true] at h
  have h2 := h.2 b hb
  simp only [blkOk, Bool.and_eq_true, decide_eq_true_eq] at h2
  exact h2.1.1
theorem prog_nouse {bs : List Bk} {b leaf : Int} {t : ByteArray} (h : ¬ useP bs b) : programF bs b leaf t = (bs, false) := by
  unfold programF
  cases ho : flOk bs with
  | false => rfl
  | true =>
    have : mayP bs b leaf t = false := by
      unfold mayP
      cases hb : bs[b.toNat]? with
      | none => rfl
      | some r => exact decide_eq_false (fun hh => h ⟨ho, hh.1, r, hb, hh.2.1⟩)
    rw [this]
    rfl
theorem prog_in {bs : List Bk} {k : Nat} {r : Bk} {leaf : Int} {t : ByteArray} (ho : flOk bs = true) (hr : bs[k]? = some r) (hf : r.1 = false) :
    (leaf < 4 ∧ leaf = (nextB r.2.2 : Nat) ∧ fillsP t = true → programF bs (k : Int) leaf t = (putLeaf bs k leaf.toNat t, true)) ∧ (¬ (leaf < 4 ∧ leaf = (nextB r.2.2 : Nat) ∧ fillsP t = true) → programF bs (k : Int) leaf t = (bs, false)) := by
  unfold programF mayP
  rw [ho, Int.toNat_natCast, hr]
  simp only [Bool.true_and, fillsP, decide_eq_true_eq]
  refine ⟨fun hh => ?_, fun hh => ?_⟩
  · rw [if_pos ⟨by omega, hf, hh.1, hh.2.1, by omega, by omega⟩]
  · rw [if_neg (fun hq => hh ⟨hq.2.2.1, hq.2.2.2.1, by omega, by omega⟩)]
end Go.Proofs.YtiicghepilbgfaaGreatDoor

/-
  impl.Program.
-/
namespace Go.Proofs.YtiicghepilbgfaaGreatDoor
open Go.RowKit

end Go.Proofs.YtiicghepilbgfaaGreatDoor
