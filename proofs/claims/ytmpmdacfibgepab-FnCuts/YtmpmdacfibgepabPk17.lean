/-
  IUse; After
-/
import Derived.Test.YtmpmdacfibgepabPk15
import Derived.Test.YtmpmdacfibgepabPk16
import Derived.Test.YtmpmdacfibgepabPk14
import Derived.Test.YtmpmdacfibgepabPk9
/-
  (impl.Flash).blockInUse.
-/
namespace Go.Proofs.Ytmpmdacfibgepab
open Go.RowKit

/-- Block b is there, and not bad, and the flash is right. -/
def useP (bs : List Bk) (b : Int) : Prop := flOk bs = true ∧ 0 ≤ b ∧ ∃ r, bs[b.toNat]? = some r ∧ r.1 = false
set_option maxHeartbeats 400000 in
set_option maxRecDepth 100000 in
theorem iuse_yes (g n cap k : Nat) (rs : List Rw) (r : Rw) (lo hi : Nat) (w : World) (hl : rs.length ≤ 1048576) (hll : ∀ r ∈ rs, r.2.2.2.length ≤ 1048576) (hh : hi ≤ w.heap.size) (ha : FlashIn w lo hi (.slice (some ⟨g, 0, none⟩) n cap) rs)
    (ho : flOk (rs.map tellOf) = true) (hr : rs[k]? = some r) (hb : r.1 = false) :
    Calls Try.prog 75 #[.agg #[.slice (some ⟨g, 0, none⟩) n cap], .int .i64 k] w fun e w' => e = .returned (.pointer (some ⟨g, k * 3, none⟩)) ∧ Below w.heap.size w w' := by
  obtain ⟨ad, capa, e, a1, a2, a3⟩ := frow_form ha.1
  injection e with e1 e2 e3
  subst e1 e2 e3
  have hkl := (List.getElem?_eq_some_iff.1 hr).1
  have HLL := hide hll
  have HA := hide ha
  have HR := hide hr
  obtain ⟨g', e, hg1, hg⟩ := a3 (by omega)
  have HGG := hide e
  have hgg : g' = g := by have := HGG.out; simp at this; exact this.symm
  subst hgg
  have HB0 := hide ((Below.refl w.heap.size w).alloc (Nat.le_refl _) (.cells #[.slice (some ⟨g', 0, none⟩) rs.length cap] 26))
  have R0 := hide (heap_alloc_new w (.cells #[.slice (some ⟨g', 0, none⟩) rs.length cap] 26))
  have HA0 := hide (ha.below HB0.out hh)
  have HZ0 := hide (show (w.alloc (.cells #[.slice (some ⟨g', 0, none⟩) rs.length cap] 26)).heap.size = w.heap.size + 1 by simp)
  clear a3 ha hll hr HGG
  go_enter Try.func75, Try.ntmps75
  go_wp2_with fail
  refine (iok_any _ rs lo hi _ hl HLL.out (by rw [HZ0.out]; omega) HA0.out).mono ?_
  rintro e w1 ⟨rfl, hb1⟩
  rw [ho]
  have HB1 := hide (HB0.out.trans (hb1.mono HB0.out.size))
  have r1 := (hb1.block w.heap.size (by rw [HZ0.out]; omega)).trans R0.out
  have k1 := cell_of_row _ _ 0 _ _ _ r1
  simp at k1
  clear hb1 r1
  go_wp2_with fail
  refine (iat_in g' rs.length cap k _ hl hkl).mono ?_
  rintro e w2 ⟨rfl, hb2⟩
  have HB2 := hide (HB1.out.trans (hb2.mono HB1.out.size))
  clear hb2 HB1
  obtain ⟨c1, -, -⟩ := kown_cells (k := k) (t := cellOf r) HA.out.1 (by rw [List.getElem?_map, HR.out]; rfl)
  have c1 : w2.cell? ⟨g', k * 3, none⟩ = some (.bool r.1) := (HB2.out.cell hg).trans c1
  rw [hb] at c1
  go_wp2
  go_ret
  exact ⟨rfl, HB2.out⟩
set_option maxHeartbeats 400000 in
set_option maxRecDepth 100000 in
theorem iuse_no (v : Value) (rs : List Rw) (lo hi : Nat) (b : Int) (w : World) (hl : rs.length ≤ 1048576) (hll : ∀ r ∈ rs, r.2.2.2.length ≤ 1048576) (hh : hi ≤ w.heap.size) (ha : FlashIn w lo hi v rs) (hno : ¬ useP (rs.map tellOf) b) :
    Calls Try.prog 75 #[.agg #[v], .int .i64 b] w fun e w' => e = .returned (.pointer none) ∧ Below w.heap.size w w' := by
  have h1 := ha.1
  obtain ⟨ad, capa, rfl, a1, a2, a3⟩ := frow_form h1
  have HLL := hide hll
  have HA := hide ha
  have A3 := hide a3
  have HNO := hide hno
  clear a3 ha hll h1 hno
  cases ho : flOk (rs.map tellOf) with
  | false =>
    have HB0 := hide ((Below.refl w.heap.size w).alloc (Nat.le_refl _) (.cells #[.slice ad rs.length capa] 26))
    have R0 := hide (heap_alloc_new w (.cells #[.slice ad rs.length capa] 26))
    have HA0 := hide (HA.out.below HB0.out hh)
    have HZ0 := hide (show (w.alloc (.cells #[.slice ad rs.length capa] 26)).heap.size = w.heap.size + 1 by simp)
    go_enter Try.func75, Try.ntmps75
    go_wp2_with fail
    refine (iok_any _ rs lo hi _ hl HLL.out (by rw [HZ0.out]; omega) HA0.out).mono ?_
    rintro e w1 ⟨rfl, hb1⟩
    rw [ho]
    have HB1 := hide (HB0.out.trans (hb1.mono HB0.out.size))
    have r1 := (hb1.block w.heap.size (by rw [HZ0.out]; omega)).trans R0.out
    have k1 := cell_of_row _ _ 0 _ _ _ r1
    simp at k1
    clear hb1 r1
    go_wp2
    go_ret
    exact ⟨rfl, HB1.out⟩
  | true =>
    by_cases hb : 0 ≤ b ∧ b ≤ (rs.length : Int) - 1
    · obtain ⟨k, rfl⟩ : ∃ k : Nat, b = k := ⟨b.toNat, by omega⟩
      have hkl : k < rs.length := by omega
      have hr : rs[k]? = some rs[k] := List.getElem?_eq_getElem hkl
      generalize rs[k] = r at hr
      have hbad : r.1 = true := by
        cases hq : r.1 with
        | true => rfl
        | false => exact absurd (show useP (rs.map tellOf) (k : Int) from ⟨ho, by omega, tellOf r, by rw [Int.toNat_natCast, List.getElem?_map, hr]; rfl, hq⟩) HNO.out
      obtain ⟨g, rfl, hg1, hg⟩ := A3.out (by omega)
      have HR := hide hr
      have HB0 := hide ((Below.refl w.heap.size w).alloc (Nat.le_refl _) (.cells #[.slice (some ⟨g, 0, none⟩) rs.length capa] 26))
      have R0 := hide (heap_alloc_new w (.cells #[.slice (some ⟨g, 0, none⟩) rs.length capa] 26))
      have HA0 := hide (HA.out.below HB0.out hh)
      have HZ0 := hide (show (w.alloc (.cells #[.slice (some ⟨g, 0, none⟩) rs.length capa] 26)).heap.size = w.heap.size + 1 by simp)
      clear hr hb HNO
      go_enter Try.func75, Try.ntmps75
      go_wp2_with fail
      refine (iok_any _ rs lo hi _ hl HLL.out (by rw [HZ0.out]; omega) HA0.out).mono ?_
      rintro e w1 ⟨rfl, hb1⟩
      rw [ho]
      have HB1 := hide (HB0.out.trans (hb1.mono HB0.out.size))
      have r1 := (hb1.block w.heap.size (by rw [HZ0.out]; omega)).trans R0.out
      have k1 := cell_of_row _ _ 0 _ _ _ r1
      simp at k1
      clear hb1 r1
      go_wp2_with fail
      refine (iat_in g rs.length capa k _ hl hkl).mono ?_
      rintro e w2 ⟨rfl, hb2⟩
      have HB2 := hide (HB1.out.trans (hb2.mono HB1.out.size))
      clear hb2 HB1
      obtain ⟨c1, -, -⟩ := kown_cells (k := k) (t := cellOf r) HA.out.1 (by rw [List.getElem?_map, HR.out]; rfl)
      have c1 : w2.cell? ⟨g, k * 3, none⟩ = some (.bool r.1) := (HB2.out.cell hg).trans c1
      rw [hbad] at c1
      go_wp2
      go_ret
      exact ⟨rfl, HB2.out⟩
    · have HB0 := hide ((Below.refl w.heap.size w).alloc (Nat.le_refl _) (.cells #[.slice ad rs.length capa] 26))
      have R0 := hide (heap_alloc_new w (.cells #[.slice ad rs.length capa] 26))
      have HA0 := hide (HA.out.below HB0.out hh)
      have HZ0 := hide (show (w.alloc (.cells #[.slice ad rs.length capa] 26)).heap.size = w.heap.size + 1 by simp)
      go_enter Try.func75, Try.ntmps75
      go_wp2_with fail
      refine (iok_any _ rs lo hi _ hl HLL.out (by rw [HZ0.out]; omega) HA0.out).mono ?_
      rintro e w1 ⟨rfl, hb1⟩
      rw [ho]
      have HB1 := hide (HB0.out.trans (hb1.mono HB0.out.size))
      have r1 := (hb1.block w.heap.size (by rw [HZ0.out]; omega)).trans R0.out
      have k1 := cell_of_row _ _ 0 _ _ _ r1
      simp at k1
      clear hb1 r1
      go_wp2_with fail
      refine (iat_out ad rs.length capa b _ hl hb).mono ?_
      rintro e w2 ⟨rfl, hb2⟩
      have HB2 := hide (HB1.out.trans (hb2.mono HB1.out.size))
      clear hb2 HB1
      go_wp2
      go_ret
      exact ⟨rfl, HB2.out⟩
end Go.Proofs.Ytmpmdacfibgepab

/-
  Where a function of the program stands that has copied the flash: the result's cell, the copy's cell, and the copy.
-/
namespace Go.Proofs.Ytmpmdacfibgepab
open Go.RowKit

def After (w w' : World) (g2 : Nat) (v : Value) (bs : List Bk) : Prop :=
  w'.heap[w.heap.size + 1]? = some (.cells #[.slice none 0 0] 26 (0, 0)) ∧ w'.heap[g2]? = some (.cells #[v] 26 (0, 0)) ∧ FlashOf w' (w.heap.size + 2) v bs ∧ Below w.heap.size w w'
theorem After.below {w w' w'' : World} {g2 : Nat} {v : Value} {bs : List Bk} (h : After w w' g2 v bs) (hb : Below w'.heap.size w' w'') : After w w'' g2 v bs := by
  obtain ⟨h1, h2, h3, h4⟩ := h
  exact ⟨(hb.block _ (Array.getElem?_eq_some_iff.1 h1).1).trans h1, (hb.block _ (Array.getElem?_eq_some_iff.1 h2).1).trans h2, h3.below hb, h4.trans (hb.mono h4.size)⟩
theorem after_start {w w1 : World} {arg v : Value} {bs : List Bk} (fo : FlashOf w1 (w.heap.size + 2) v bs) (b1 : Below (w.heap.size + 2) ((w.alloc (.cells #[arg] 26)).alloc (.cells #[.slice none 0 0] 26)) w1) : After w (w1.alloc (.cells #[v] 26)) w1.heap.size v bs := by
  have hb0 := ((Below.refl w.heap.size w).alloc (Nat.le_refl _) (.cells #[arg] 26)).alloc (by simp) (.cells #[.slice none 0 0] 26)
  have r1 := heap_alloc_new (w.alloc (.cells #[arg] 26)) (.cells #[.slice none 0 0] 26)
  rw [show (w.alloc (.cells #[arg] 26)).heap.size = w.heap.size + 1 by simp] at r1
  have hs := b1.size
  simp at hs
  have b2 := (Below.refl w1.heap.size w1).alloc (Nat.le_refl _) (.cells #[v] 26)
  exact ⟨(b2.block _ (by omega)).trans ((b1.block _ (by omega)).trans r1), heap_alloc_new w1 _, fo.below b2, (hb0.trans (b1.mono (by omega))).trans (b2.mono (by omega))⟩
theorem tell_get {rs ss : List Rw} (h : rs.map tellOf = ss.map tellOf) (k : Nat) (r : Rw) (hr : rs[k]? = some r) : ∃ s, ss[k]? = some s ∧ tellOf r = tellOf s := by
  have h1 := congrArg (fun l : List Bk => l[k]?) h
  simp only [List.getElem?_map, hr, Option.map_some] at h1
  cases hs : ss[k]? with
  | none => rw [hs] at h1; cases h1
  | some s =>
    rw [hs] at h1
    exact ⟨s, rfl, by simpa using h1⟩
theorem tell_lens {ss rs : List Rw} (h : ss.map tellOf = rs.map tellOf) (hl : rs.length ≤ 1048576) (hll : ∀ r ∈ rs, r.2.2.2.length ≤ 1048576) : ss.length ≤ 1048576 ∧ ∀ r ∈ ss, r.2.2.2.length ≤ 1048576 := by
  have h1 := congrArg List.length h
  simp only [List.length_map] at h1
  refine ⟨by omega, fun r hr => ?_⟩
  obtain ⟨k, hk, rfl⟩ := List.getElem_of_mem hr
  obtain ⟨s, hs, e⟩ := tell_get h k _ (List.getElem?_eq_getElem hk)
  have h2 := congrArg (fun x : Bk => x.2.2.length) e
  simp only [tellOf] at h2
  rw [h2]
  exact hll s (List.mem_of_getElem? hs)
theorem tell_tx {ss rs : List Rw} (h : ss.map tellOf = rs.map tellOf) (hx : TxB rs) : TxB ss := by
  intro r hr
  obtain ⟨k, hk, rfl⟩ := List.getElem_of_mem hr
  obtain ⟨s, hs, e⟩ := tell_get h k _ (List.getElem?_eq_getElem hk)
  have h2 := congrArg (fun x : Bk => x.2.2) e
  simp only [tellOf] at h2
  rw [h2]
  exact hx s (List.mem_of_getElem? hs)
theorem use_yes {ss : List Rw} {b : Int} (h : useP (ss.map tellOf) b) : ∃ (k : Nat) (s : Rw), b = k ∧ ss[k]? = some s ∧ s.1 = false := by
  obtain ⟨-, h0, r, hr, hf⟩ := h
  rw [List.getElem?_map] at hr
  obtain ⟨s, hs, rfl⟩ := Option.map_eq_some_iff.1 hr
  exact ⟨b.toNat, s, by omega, hs, hf⟩
theorem flOk_four {bs : List Bk} {b : Bk} (h : flOk bs = true) (hb : b ∈ bs) : b.2.2.length = 4 := by
  simp only [flOk, Bool.and_eq_true, List.all_eq_true] at h
  have h2 := h.2 b hb
  simp only [blkOk, Bool.and_eq_true, decide_eq_true_eq] at h2
  exact h2.1.1
theorem prog_nouse {bs : List Bk} {b leaf : Int} {t : ByteArray} (h : ¬ useP bs b) : programF bs b leaf t = (bs, false) := by
  unfold programF
  cases ho : flOk bs with
  | false => rfl
  | true =>
    have : mayP bs b leaf t = false := by
      unfold mayP
      cases hb : bs[b.toNat]? with
      | none => rfl
      | some r => exact decide_eq_false (fun hh => h ⟨ho, hh.1, r, hb, hh.2.1⟩)
    rw [this]
    rfl
theorem prog_in {bs : List Bk} {k : Nat} {r : Bk} {leaf : Int} {t : ByteArray} (ho : flOk bs = true) (hr : bs[k]? = some r) (hf : r.1 = false) :
    (leaf < 4 ∧ leaf = (nextB r.2.2 : Nat) ∧ fillsP t = true → programF bs (k : Int) leaf t = (putLeaf bs k leaf.toNat t, true)) ∧ (¬ (leaf < 4 ∧ leaf = (nextB r.2.2 : Nat) ∧ fillsP t = true) → programF bs (k : Int) leaf t = (bs, false)) := by
  unfold programF mayP
  rw [ho, Int.toNat_natCast, hr]
  simp only [Bool.true_and, fillsP, decide_eq_true_eq]
  refine ⟨fun hh => ?_, fun hh => ?_⟩
  · rw [if_pos ⟨by omega, hf, hh.1, hh.2.1, by omega, by omega⟩]
  · rw [if_neg (fun hq => hh ⟨hq.2.2.1, hq.2.2.2.1, by omega, by omega⟩)]
end Go.Proofs.Ytmpmdacfibgepab
