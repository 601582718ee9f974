/-
  FdOr; IMatch; LMath; Longest; ITok
-/
import Derived.Test.YtcjgjkejhkhknabGreatDoorPk26
import Derived.Test.YtcjgjkejhkhknabGreatDoorPk22
import Derived.Test.YtcjgjkejhkhknabGreatDoorPk38
import Derived.Test.YtcjgjkejhkhknabGreatDoorPk0
import Derived.Test.YtcjgjkejhkhknabGreatDoorPk24
import Derived.Test.YtcjgjkejhkhknabGreatDoorPk25
/-
  A page that was found, or none, in a block of its own and as an answer.
-/
namespace Go.Proofs.YtcjgjkejhkhknabGreatDoor
open Go.RowKit
open Words

def fd0 : Fnd := ⟨0, 0, ⟨0, 0, 0, 0, 0, ⟨#[]⟩⟩⟩
def fdOr (o : Option Fnd) : Fnd := o.getD fd0
/-- Block g has it. -/
def FdAt (W : World) (g : Nat) (x : Fnd) : Prop := W.heap[g]? = some (.cells #[.int .i64 x.block, .int .i64 x.leaf, .int .i64 x.page.kind, .int .i64 x.page.seq, .int .i64 x.page.tx, .int .i64 x.page.part, .int .i64 x.page.count, .string x.page.text] 77 (0, 0))
theorem FdAt.below {w w' : World} {g : Nat} {x : Fnd} (h : FdAt w g x) (hb : Below w.heap.size w w') : FdAt w' g x := (hb.block _ (Array.getElem?_eq_some_iff.1 h).1).trans h
theorem FdAt.cells {W : World} {g : Nat} {x : Fnd} (h : FdAt W g x) : W.cell? ⟨g, 0, none⟩ = some (.int .i64 x.block) ∧ W.cell? ⟨g, 1, none⟩ = some (.int .i64 x.leaf) ∧ W.cell? ⟨g, 2, none⟩ = some (.int .i64 x.page.kind) ∧ W.cell? ⟨g, 3, none⟩ = some (.int .i64 x.page.seq) ∧ W.cell? ⟨g, 4, none⟩ = some (.int .i64 x.page.tx) ∧ W.cell? ⟨g, 5, none⟩ = some (.int .i64 x.page.part) ∧ W.cell? ⟨g, 6, none⟩ = some (.int .i64 x.page.count) ∧ W.cell? ⟨g, 7, none⟩ = some (.string x.page.text) :=
  ⟨cell_of_row _ _ 0 _ _ _ h, cell_of_row _ _ 1 _ _ _ h, cell_of_row _ _ 2 _ _ _ h, cell_of_row _ _ 3 _ _ _ h, cell_of_row _ _ 4 _ _ _ h, cell_of_row _ _ 5 _ _ _ h, cell_of_row _ _ 6 _ _ _ h, cell_of_row _ _ 7 _ _ _ h⟩
theorem FdAt.fr {W : World} {g : Nat} {x : Fnd} (h : FdAt W g x) (k : Nat) : W.frozen? ⟨g, k, none⟩ = false := frozen_of_row _ _ k _ _ h
set_option maxHeartbeats 1000000 in
theorem eight_cs {w : World} {g : Nat} {t : TypeId} {y0 y1 y2 y3 y4 y5 y6 y7 a b c d e f k l : Value} (h : w.heap[g]? = some (.cells #[y0, y1, y2, y3, y4, y5, y6, y7] t (0, 0))) :
    ((((((((w.setCell ⟨g, 0, none⟩ a).setCell ⟨g, 1, none⟩ b).setCell ⟨g, 2, none⟩ c).setCell ⟨g, 3, none⟩ d).setCell ⟨g, 4, none⟩ e).setCell ⟨g, 5, none⟩ f).setCell ⟨g, 6, none⟩ k).setCell ⟨g, 7, none⟩ l).heap[g]? = some (.cells #[a, b, c, d, e, f, k, l] t (0, 0)) := by
  have h0 : (w.setCell ⟨g, 0, none⟩ a).heap[g]? = some (.cells #[a, y1, y2, y3, y4, y5, y6, y7] t (0, 0)) := heap_setCell_same _ _ 0 _ _ _ h
  generalize w.setCell ⟨g, 0, none⟩ a = w0 at h0 ⊢
  have h1 : (w0.setCell ⟨g, 1, none⟩ b).heap[g]? = some (.cells #[a, b, y2, y3, y4, y5, y6, y7] t (0, 0)) := heap_setCell_same _ _ 1 _ _ _ h0
  generalize w0.setCell ⟨g, 1, none⟩ b = w1 at h1 ⊢
  have h2 : (w1.setCell ⟨g, 2, none⟩ c).heap[g]? = some (.cells #[a, b, c, y3, y4, y5, y6, y7] t (0, 0)) := heap_setCell_same _ _ 2 _ _ _ h1
  generalize w1.setCell ⟨g, 2, none⟩ c = w2 at h2 ⊢
  have h3 : (w2.setCell ⟨g, 3, none⟩ d).heap[g]? = some (.cells #[a, b, c, d, y4, y5, y6, y7] t (0, 0)) := heap_setCell_same _ _ 3 _ _ _ h2
  generalize w2.setCell ⟨g, 3, none⟩ d = w3 at h3 ⊢
  have h4 : (w3.setCell ⟨g, 4, none⟩ e).heap[g]? = some (.cells #[a, b, c, d, e, y5, y6, y7] t (0, 0)) := heap_setCell_same _ _ 4 _ _ _ h3
  generalize w3.setCell ⟨g, 4, none⟩ e = w4 at h4 ⊢
  have h5 : (w4.setCell ⟨g, 5, none⟩ f).heap[g]? = some (.cells #[a, b, c, d, e, f, y6, y7] t (0, 0)) := heap_setCell_same _ _ 5 _ _ _ h4
  generalize w4.setCell ⟨g, 5, none⟩ f = w5 at h5 ⊢
  have h6 : (w5.setCell ⟨g, 6, none⟩ k).heap[g]? = some (.cells #[a, b, c, d, e, f, k, y7] t (0, 0)) := heap_setCell_same _ _ 6 _ _ _ h5
  generalize w5.setCell ⟨g, 6, none⟩ k = w6 at h6 ⊢
  exact heap_setCell_same _ _ 7 _ _ _ h6
/-- Eight cells are laid over it. -/
theorem FdAt.set {W : World} {g : Nat} {x : Fnd} (h : FdAt W g x) (y : Fnd) :
    FdAt ((((((((W.setCell ⟨g, 0, none⟩ (.int .i64 y.block)).setCell ⟨g, 1, none⟩ (.int .i64 y.leaf)).setCell ⟨g, 2, none⟩ (.int .i64 y.page.kind)).setCell ⟨g, 3, none⟩ (.int .i64 y.page.seq)).setCell ⟨g, 4, none⟩ (.int .i64 y.page.tx)).setCell ⟨g, 5, none⟩ (.int .i64 y.page.part)).setCell ⟨g, 6, none⟩ (.int .i64 y.page.count)).setCell ⟨g, 7, none⟩ (.string y.page.text)) g y := eight_cs h
theorem below_fd {B g : Nat} {a w : World} {v0 v1 v2 v3 v4 v5 v6 v7 : Value} (h : Below B a w) (hg : B ≤ g) :
    Below B a ((((((((w.setCell ⟨g, 0, none⟩ v0).setCell ⟨g, 1, none⟩ v1).setCell ⟨g, 2, none⟩ v2).setCell ⟨g, 3, none⟩ v3).setCell ⟨g, 4, none⟩ v4).setCell ⟨g, 5, none⟩ v5).setCell ⟨g, 6, none⟩ v6).setCell ⟨g, 7, none⟩ v7) :=
  (((((((h.setCell (p := ⟨g, 0, none⟩) hg _).setCell (p := ⟨g, 1, none⟩) hg _).setCell (p := ⟨g, 2, none⟩) hg _).setCell (p := ⟨g, 3, none⟩) hg _).setCell (p := ⟨g, 4, none⟩) hg _).setCell (p := ⟨g, 5, none⟩) hg _).setCell (p := ⟨g, 6, none⟩) hg _).setCell (p := ⟨g, 7, none⟩) hg _
theorem infoFdS : (Tryz.prog.info? 77).map (·.size) = some 8 := by kernel_rfl
theorem results_fd2 {fn : Func} {p q : Tmp} (h : fn.results = #[.cell p 77, .tmp q]) (tmps : Array Value) (w : World) (g : Nat) (x : Fnd)
    (hp : tmps.getD p undef = .pointer (some ⟨g, 0, none⟩)) (hc : FdAt w g x) :
    (results fn tmps).run Tryz.prog w = .ok (.tuple #[fdVal x, tmps.getD q undef]) w := by
  have hp' : tmps[p]?.getD undef = .pointer (some ⟨g, 0, none⟩) := by simpa using hp
  have hl := run_loadVar_row (P := Tryz.prog) w g 77 77 _ _ _ hc Tryz.underlying77 rfl infoFdS
  simp [results, h, hp', asAddr, hl, fdVal]
theorem FdRd.all {w : World} {a : Option Addr} {len : Nat} {ls : List Fnd} (h : FdRd w a len ls) {k : Nat} {t : Fnd} (hk : ls[k]? = some t) :
    ∃ b off, a = some ⟨b, off, none⟩ ∧ b < w.heap.size ∧ w.cell? ⟨b, off + k * 8, none⟩ = some (.int .i64 t.block) ∧ w.cell? ⟨b, off + k * 8 + 1, none⟩ = some (.int .i64 t.leaf) ∧
      w.cell? ⟨b, off + k * 8 + 2, none⟩ = some (.int .i64 t.page.kind) ∧ w.cell? ⟨b, off + k * 8 + 3, none⟩ = some (.int .i64 t.page.seq) ∧ w.cell? ⟨b, off + k * 8 + 4, none⟩ = some (.int .i64 t.page.tx) ∧
      w.cell? ⟨b, off + k * 8 + 5, none⟩ = some (.int .i64 t.page.part) ∧ w.cell? ⟨b, off + k * 8 + 6, none⟩ = some (.int .i64 t.page.count) ∧ w.cell? ⟨b, off + k * 8 + 7, none⟩ = some (.string t.page.text) ∧ w.cell? ⟨b, off + k * 8 + 2 + 2, none⟩ = some (.int .i64 t.page.tx) := by
  obtain ⟨b, off, e, h0, h1, h2, h3, h4, h5, h6, h7, h8⟩ := h.at hk
  exact ⟨b, off, e, h0, h1, h2, h3, h4, h5, h6, h7, h8, h5⟩
/-- What a scan answered can be read. -/
theorem FRes.rd {W : World} {B : Nat} {u : Value} {M : List Fnd} (h : FRes W B u M) : ∃ ad cap, u = .slice ad M.length cap ∧ FdRd W ad M.length M ∧ M.length ≤ 1000000000000000000 := by
  rcases h with ⟨rfl, rfl⟩ | ⟨g, cap, rfl, hB, hr, hl⟩
  · exact ⟨none, 0, rfl, ⟨rfl, by unfold maxLen; simp, fun h => by simp at h⟩, by simp⟩
  · refine ⟨_, _, rfl, ⟨rfl, by unfold maxLen; omega, fun _ => ⟨g, 0, rfl, hr.lt, fun i t hi j v hv => ?_⟩⟩, hl⟩
    rw [Nat.zero_add]
    exact hr.cell hi j hv
end Go.Proofs.YtcjgjkejhkhknabGreatDoor

/-
  The walk of the program's match.
-/
namespace Go.Proofs.YtcjgjkejhkhknabGreatDoor
open Go.RowKit
open Pack

set_option maxHeartbeats 400000 in
set_option maxRecDepth 100000 in
theorem imatch_any (s : ByteArray) (i j : Nat) (w : World) (hs : s.size ≤ 64) (hij : i < j) (hj : j ≤ s.size) :
    Calls Tryz.prog 174 #[.string s, .int .i64 i, .int .i64 j] w fun e w' => e = .returned (.int .i64 (mlen 31 (s.data.toList.drop i) (s.data.toList.drop j) : Nat)) ∧ Below w.heap.size w w' := by
  have hl : s.data.toList.length = s.size := by simp
  go_enter Tryz.func174, Tryz.ntmps174
  go_wp2
  go_loopw [7] (fun nv wr => ∃ n : Nat, n ≤ 31 ∧ j + n ≤ s.size ∧ nv = .int .i64 n ∧ Hid (mlen 31 (s.data.toList.drop i) (s.data.toList.drop j) = n + mlen (31 - n) (s.data.toList.drop (i + n)) (s.data.toList.drop (j + n))) ∧ Below w.heap.size w wr) (fun nv _ => 31 - (intOf nv).toNat)
  case atStart => exact ⟨0, by omega, by omega, rfl, (by show _ = 0 + _; simp), Below.refl _ _⟩
  case round =>
    obtain ⟨n, hn, hjn, rfl, HM, hbel⟩ := hrel
    have w1 : IntKind.i64.wrap ((j : Int) + n) = (j : Int) + n := by rw [IntKind.wrap_i64]; omega
    have w2 : IntKind.i64.wrap ((i : Int) + n) = (i : Int) + n := by rw [IntKind.wrap_i64]; omega
    have HB := hide hbel
    clear hbel
    by_cases h31 : n < 31
    · have d1 : decide ((n : Int) < 31) = true := decide_eq_true (by omega)
      by_cases hlt : j + n < s.size
      · have d2 : decide ((j : Int) + n < s.size) = true := decide_eq_true (by omega)
        have f1 := byte_ofT s (i + n) ((i : Int) + n) (by omega) (by omega)
        have f2 := byte_ofT s (j + n) ((j : Int) + n) (by omega) (by omega)
        by_cases heq : s.data.toList.getD (i + n) 0 = s.data.toList.getD (j + n) 0
        · have HM2 : Hid (mlen 31 (s.data.toList.drop i) (s.data.toList.drop j) = (n + 1) + mlen (31 - (n + 1)) (s.data.toList.drop (i + (n + 1))) (s.data.toList.drop (j + (n + 1)))) := by
            show _ = _
            rw [HM.out, show 31 - n = (31 - (n + 1)) + 1 by omega, mlen_yes _ _ _ _ (by omega) (by omega) heq, show i + n + 1 = i + (n + 1) by omega, show j + n + 1 = j + (n + 1) by omega]
            omega
          rw [heq] at f1
          generalize (s.data.toList.getD (j + n) 0).toNat = c at f1 f2
          have e1 : ((c : Int) == (c : Int)) = true := by simp
          clear HM heq hl
          go_wp2
          go_quiet (fail)
          go_wp2
          go_roundw
          case rel => exact ⟨n + 1, by omega, by omega, by go_num, HM2, below_drewN HB.out _⟩
          case measure => simp [intOf]; omega
        · have HM2 : Hid (mlen 31 (s.data.toList.drop i) (s.data.toList.drop j) = n) := by
            show _ = _
            rw [HM.out, mlen_no _ _ _ _ (by omega) (by omega) heq]; rfl
          have hne : ((((s.data.toList.getD (i + n) 0).toNat : Nat) : Int) == (((s.data.toList.getD (j + n) 0).toNat : Nat) : Int)) = false := by
            rw [beq_eq_false_iff_ne]
            intro h
            exact heq (UInt8.toNat_inj.1 (by omega))
          generalize (s.data.toList.getD (i + n) 0).toNat = c1 at f1 hne
          generalize (s.data.toList.getD (j + n) 0).toNat = c2 at f2 hne
          clear HM heq hl
          go_wp2
          go_quiet (fail)
          go_wp2
          go_ret
          exact ⟨by rw [HM2.out]; rfl, below_drewN HB.out _⟩
      · have d2 : decide ((j : Int) + n < s.size) = false := decide_eq_false (by omega)
        have HM2 : Hid (mlen 31 (s.data.toList.drop i) (s.data.toList.drop j) = n) := by
          show _ = _
          rw [HM.out, mlen_end _ _ _ _ (by omega)]; rfl
        clear HM hl
        go_wp2
        go_quiet (fail)
        go_wp2
        go_ret
        exact ⟨by rw [HM2.out]; rfl, below_drewN HB.out _⟩
    · have d1 : decide ((n : Int) < 31) = false := decide_eq_false (by omega)
      have e31 : n = 31 := by omega
      have HM2 : Hid (mlen 31 (s.data.toList.drop i) (s.data.toList.drop j) = n) := by
        show _ = _
        rw [HM.out, e31]; rfl
      clear HM hl e31
      go_wp2
      go_quiet (fail)
      go_wp2
      go_ret
      exact ⟨by rw [HM2.out]; rfl, below_drewN HB.out _⟩
end Go.Proofs.YtcjgjkejhkhknabGreatDoor

/-
  Of all places ahead, those at which the same four bytes begin are enough to find the best match.
-/
namespace Go.Proofs.YtcjgjkejhkhknabGreatDoor.Pack
open Go.Proofs.YtcjgjkejhkhknabGreatDoor

theorem filter_snoc (f : Nat → Bool) (n p : Nat) (L : List Nat) (h : (List.range n).filter f = L ++ [p]) : p < n ∧ f p = true ∧ (List.range p).filter f = L ∧ ∀ x, p < x → x < n → f x = false := by
  induction n with
  | zero => simp at h
  | succ n ih =>
    rw [List.range_succ, List.filter_append] at h
    by_cases hn : f n = true
    · have e1 : List.filter f [n] = [n] := by simp [hn]
      rw [e1] at h
      obtain ⟨h1, h2⟩ := List.append_inj' h rfl
      have hp : n = p := by simpa using h2
      subst hp
      exact ⟨by omega, hn, h1, fun x a b => by omega⟩
    · have e1 : List.filter f [n] = [] := by simp [hn]
      rw [e1, List.append_nil] at h
      obtain ⟨a, b, c, d⟩ := ih h
      refine ⟨by omega, b, c, fun x hx hx2 => ?_⟩
      by_cases he : x = n
      · subst he; simpa using hn
      · exact d x hx (by omega)
theorem filter_none (f : Nat → Bool) (n : Nat) (h : (List.range n).filter f = []) : ∀ x, x < n → f x = false := by
  intro x hx
  have := List.filter_eq_nil_iff.1 h x (List.mem_range.2 hx)
  simpa using this

theorem four_eq (s : List UInt8) (k : Nat) (h : k + 4 ≤ s.length) : fourAt s k = [s.getD k 0, s.getD (k + 1) 0, s.getD (k + 2) 0, s.getD (k + 3) 0] := by
  unfold fourAt
  rw [if_pos h, drop_cons s k (by omega), drop_cons s (k + 1) (by omega), drop_cons s (k + 1 + 1) (by omega), drop_cons s (k + 1 + 1 + 1) (by omega)]
  rfl
theorem mlen_four (s : List UInt8) (x k : Nat) (hx : x < k) (h : k + 4 ≤ s.length) : 4 ≤ mlen 31 (s.drop x) (s.drop k) ↔ fourAt s x = fourAt s k := by
  rw [four_eq s x (by omega), four_eq s k h]
  by_cases h0 : s.getD x 0 = s.getD k 0
  · rw [mlen_yes 30 s x k (by omega) (by omega) h0]
    by_cases h1 : s.getD (x + 1) 0 = s.getD (k + 1) 0
    · rw [mlen_yes 29 s (x + 1) (k + 1) (by omega) (by omega) h1]
      by_cases h2 : s.getD (x + 2) 0 = s.getD (k + 2) 0
      · rw [mlen_yes 28 s (x + 2) (k + 2) (by omega) (by omega) h2]
        by_cases h3 : s.getD (x + 3) 0 = s.getD (k + 3) 0
        · rw [mlen_yes 27 s (x + 3) (k + 3) (by omega) (by omega) h3, h0, h1, h2, h3]
          simp
        · rw [mlen_no 28 s (x + 3) (k + 3) (by omega) (by omega) h3]
          simp only [List.cons.injEq, h3, and_true, and_false, iff_false]
          omega
      · rw [mlen_no 29 s (x + 2) (k + 2) (by omega) (by omega) h2]
        simp only [List.cons.injEq, h2, and_true, false_and, and_false, iff_false]
        omega
    · rw [mlen_no 30 s (x + 1) (k + 1) (by omega) (by omega) h1]
      simp only [List.cons.injEq, h1, and_true, false_and, and_false, iff_false]
      omega
  · rw [mlen_no 31 s x k (by omega) (by omega) h0]
    simp only [List.cons.injEq, h0, and_true, false_and, iff_false]
    omega
theorem best_skip (s : List UInt8) (k c d : Nat) (h : ∀ x, x < k → k - (c + d) ≤ x → x < k - c → ¬ 4 ≤ mlen 31 (s.drop x) (s.drop k)) (hc : c + d ≤ k) : best s k (c + d) = best s k c := by
  induction d with
  | zero => rfl
  | succ d ih =>
    rw [← Nat.add_assoc, best_no, ih (fun x a b e => h x a (by omega) e) (by omega)]
    intro hh
    exact h (k - (c + d + 1)) (by omega) (by omega) (by omega) hh.1
theorem best_short (s : List UInt8) (k : Nat) (h : ¬ k + 4 ≤ s.length) : best s k k = (0, 0) := by
  have := best_skip s k 0 k (fun x _ _ _ h4 => by
    have := (mlen_le 31 (s.drop x) (s.drop k)).2
    rw [List.length_drop] at this
    omega) (by omega)
  rw [Nat.zero_add] at this
  exact this

/-- One place of the list: the next of the loop. -/
theorem best_place (s : List UInt8) (k c p : Nat) (L : List Nat) (hc : c ≤ k) (h4 : k + 4 ≤ s.length) (h : placesN s (fourAt s k) (k - c) = L ++ [p]) :
    p < k - c ∧ placesN s (fourAt s k) p = L ∧ 4 ≤ mlen 31 (s.drop p) (s.drop k) ∧
      ((best s k c).1 < mlen 31 (s.drop p) (s.drop k) → best s k (k - p) = (mlen 31 (s.drop p) (s.drop k), k - p)) ∧ (¬ (best s k c).1 < mlen 31 (s.drop p) (s.drop k) → best s k (k - p) = best s k c) := by
  obtain ⟨h1, h2, h3, h5⟩ := filter_snoc _ _ _ _ h
  have hp4 : fourAt s p = fourAt s k := by simp at h2; exact h2.2
  have hm := (mlen_four s p k (by omega) h4).2 hp4
  have hsk := best_skip s k c (k - p - 1 - c) (fun x a b d hh => by
    have e1 := (mlen_four s x k a h4).1 hh
    have := h5 x (by omega) d
    simp [e1] at this
    omega) (by omega)
  rw [show c + (k - p - 1 - c) = k - p - 1 by omega] at hsk
  have e2 : k - (k - p - 1 + 1) = p := by omega
  have e3 : k - p - 1 + 1 = k - p := by omega
  refine ⟨h1, h3, hm, fun hb => ?_, fun hb => ?_⟩
  · have := best_yes s k (k - p - 1) (by rw [e2]; exact hm) (by rw [e2, hsk]; exact hb)
    rw [e2, e3] at this
    exact this
  · have := best_no s k (k - p - 1) (by rw [e2, hsk]; exact fun hh => hb hh.2)
    rw [e3, hsk] at this
    exact this
theorem best_last (s : List UInt8) (k c : Nat) (hc : c ≤ k) (h4 : k + 4 ≤ s.length) (h : placesN s (fourAt s k) (k - c) = []) : best s k k = best s k c := by
  have := best_skip s k c (k - c) (fun x a b d hh => by
    have e1 := (mlen_four s x k a h4).1 hh
    have := filter_none _ _ h x d
    simp [e1] at this
    omega) (by omega)
  rwa [show c + (k - c) = k by omega] at this
end Go.Proofs.YtcjgjkejhkhknabGreatDoor.Pack

/-
  The walk of the program's longest match.
-/
namespace Go.Proofs.YtcjgjkejhkhknabGreatDoor
open Go.RowKit
open Pack

theorem placesI_at (s q : List UInt8) (m j p : Nat) (L : List Nat) (h : (placesN s q m).take (j + 1) = L ++ [p]) (hL : L.length = j) : (placesI s q m)[j]? = some (p : Int) := by
  have h1 : (placesN s q m)[j]? = some p := by
    have e1 : ((placesN s q m).take (j + 1))[j]? = some p := by rw [h, ← hL]; simp
    rwa [List.getElem?_take_of_lt (by omega)] at e1
  simp [placesI, h1]

theorem ints_slice {w : World} {base : Nat} {v : Value} {zs : List Int} (h : w.ownsInts base 3 .i64 v zs) : ∃ (ao : Option Addr) (n cap : Nat), v = .slice ao n cap ∧ n = zs.length ∧
    (0 < n → ∃ g, ao = some ⟨g, 0, none⟩ ∧ g < w.heap.size ∧ ∀ (j : Nat) (p : Int), zs[j]? = some p → w.cell? ⟨g, j, none⟩ = some (.int .i64 p)) := by
  have hlt := h.1.lt
  have hc := h.1
  rcases h.1.2 with ⟨rfl, h0⟩ | ⟨g, cap, cur, rfl, hb, hg, hn, hcap, hcs, htake⟩
  · exact ⟨none, 0, 0, rfl, h0.symm, fun h => by omega⟩
  · refine ⟨_, _, _, rfl, rfl, fun _ => ⟨g, rfl, (hlt g rfl).2, fun j p hj => ?_⟩⟩
    have := hc.cells (g := g) rfl j (.int .i64 p) (by simp [hj])
    rwa [addr_at] at this

set_option maxHeartbeats 400000 in
set_option maxRecDepth 100000 in
theorem longest_any (s : ByteArray) (b base k : Nat) (w : World) (No : Nat → Prop) (hs : s.size ≤ 64) (hk : k ≤ s.size) (hp : PMapAt w base b k s.data.toList No) :
    Calls Tryz.prog 161 #[.map (some b), .string s, .int .i64 k] w fun e w' => e = .returned (.tuple #[.int .i64 ((best s.data.toList k k).2 : Nat), .int .i64 ((best s.data.toList k k).1 : Nat)]) ∧ Below w.heap.size w w' := by
  have hl : s.data.toList.length = s.size := by simp
  have HP := hide hp
  clear hp
  go_enter Tryz.func161, Tryz.ntmps161
  go_wp2_with fail
  refine (start_any s k _ hs (by omega)).mono ?_
  rintro e w5 ⟨rfl, hb5⟩
  have HM5 := hide (pmap_kept HP.out (grown_old hb5 none) (fun j hj => by cases hj))
  have HB5 := hide hb5
  have hsz5 := hb5.size
  clear hb5 HP
  have hv := hide (bytes_made w5 [0, 0, 0, 0] #[Value.int .u8 0, Value.int .u8 0, Value.int .u8 0, Value.int .u8 0] 246 rfl)
  by_cases h4 : k + 4 ≤ s.size
  · rw [decide_eq_true h4]
    go_wp2_with (first
      | (refine wpList_store_key rfl _ _ rfl w5.heap.size _ [0, 0, 0, 0] rfl rfl hv.out (fourAt_len _ _) rfl ?_
         intro w6 hw6
         obtain ⟨hy6, hm6, hb6, hsz6⟩ := note_prep (fourAt_len _ _) HM5.out hw6
         have HY := hide hy6
         have HM6 := hide hm6
         have HB6 := hide (HB5.out.trans (hb6.mono hsz5))
         obtain ⟨v, hlook, hoi⟩ := pmap_look hm6 (by omega) (fourAt s.data.toList k) (fourAt_len _ _)
         have HOI := hide hoi
         have hlk := hlook false rfl
         obtain ⟨ao, n, cap, rfl, hn, hao⟩ := ints_slice hoi
         have hn64 : n ≤ 64 := by have := places_len s.data.toList (fourAt s.data.toList k) k; omega
         have HN := hide hn
         have HA := hide hao
         clear hn hao
         have hge : w.heap.size ≤ w6.heap.size := by omega
         clear hw6 hy6 hm6 hb6 hsz6 hoi hlook HM5 HB5)
      | refine wpList_load_key rfl _ rfl _ rfl _ HY.out (fourAt_len _ _) ?_
      | go_in)
    have hN2 : n = (placesN s.data.toList (fourAt s.data.toList k) k).length := by rw [HN.out]; simp [placesI]
    have HN2 := hide hN2
    clear hN2 HN hlk HM6 HY hv
    go_loopw [10, 11, 13] (fun bv zv iv wr => ∃ (c j b1 b2 : Nat), c ≤ k ∧ j ≤ n ∧ iv = .int .i64 ((j : Int) - 1) ∧ bv = .int .i64 b2 ∧ zv = .int .i64 b1 ∧ b1 ≤ 31 ∧ b2 ≤ 64 ∧ Hid (best s.data.toList k c = (b1, b2)) ∧ Hid (placesN s.data.toList (fourAt s.data.toList k) (k - c) = (placesN s.data.toList (fourAt s.data.toList k) k).take j) ∧ Hid (Below w6.heap.size w6 wr)) (fun _ _ iv _ => (intOf iv + 1).toNat)
    case atStart => exact ⟨0, n, 0, 0, by omega, Nat.le_refl _, by go_num, rfl, rfl, by omega, by omega, rfl, (by show _ = _; rw [Nat.sub_zero, HN2.out, List.take_length]), Below.refl _ _⟩
    case round =>
      obtain ⟨c, j, b1, b2, hc, hj, rfl, rfl, rfl, hb1, hb2, HB, HL, HW⟩ := hrel
      cases j with
      | zero =>
        have hlast := best_last s.data.toList k c hc (by rw [hl]; exact h4) (by rw [HL.out]; rfl)
        have HX : Hid (best s.data.toList k k = (b1, b2)) := by show _ = _; rw [hlast, HB.out]
        have hneg : ¬ (0 : Int) ≤ ((0 : Nat) : Int) - 1 := by omega
        clear hlast HB HL
        go_wp2
        exact bodyPost_ret (results_tmp2 rfl _ _ _) rfl ⟨by rw [HX.out]; rfl, HB6.out.trans (HW.out.mono hge)⟩
      | succ j =>
        have ej : (((j + 1 : Nat) : Int) - 1) = (j : Int) := by omega
        rw [ej]
        rcases List.eq_nil_or_concat (placesN s.data.toList (fourAt s.data.toList k) (k - c)) with h0 | ⟨L, p, h0⟩
        · exfalso
          have := congrArg List.length HL.out
          rw [h0, List.length_take] at this
          have := HN2.out
          simp at *
          omega
        · rw [List.concat_eq_append] at h0
          have hLl : L.length = j := by
            have e1 := congrArg List.length HL.out
            rw [h0, List.length_take, List.length_append] at e1
            have := HN2.out
            simp at e1
            omega
          obtain ⟨q1, q2, q3, q4, q5⟩ := best_place s.data.toList k c p L hc (by rw [hl]; exact h4) h0
          have hat := placesI_at s.data.toList (fourAt s.data.toList k) k j p L (by rw [← HL.out, h0]) hLl
          obtain ⟨g, rfl, hgl, hcell⟩ := HA.out (by omega)
          have hc1 : wr.cell? ⟨g, j, none⟩ = some (.int .i64 (p : Int)) := by
            rw [HW.out.cell (show g < w6.heap.size from hgl)]
            exact hcell j _ hat
          have HL2 : Hid (placesN s.data.toList (fourAt s.data.toList k) (k - (k - p)) = (placesN s.data.toList (fourAt s.data.toList k) k).take j) := by
            show _ = _
            rw [show k - (k - p) = p by omega, q2]
            have e1 := HL.out
            rw [h0] at e1
            have e2 := congrArg (List.take j) e1
            rw [List.take_take, List.take_append_of_le_length (by omega), ← hLl, List.take_length] at e2
            rw [e2, hLl]
            congr 1
            omega
          have hpk : p < k := by omega
          have hb1e : (best s.data.toList k c).1 = b1 := by rw [HB.out]
          rw [hb1e] at q4 q5
          have HQ := hide (⟨q4, q5⟩ : _ ∧ _)
          have HBc := hide HB.out
          have hj0 : (0 : Int) ≤ j := by omega
          have hjn : (j : Int) < n := by omega
          have hm31 := (mlen_le 31 (s.data.toList.drop p) (s.data.toList.drop k)).1
          clear h0 q2 q3 q4 q5 hat hcell HL hLl hb1e q1 ej
          go_wp2_with fail
          refine (imatch_any s p k _ hs hpk hk).mono ?_
          rintro e w7 ⟨rfl, hb7⟩
          have hc7 : w7.cell? ⟨g, j, none⟩ = some (.int .i64 (p : Int)) := by
            rw [hb7.cell (show g < wr.heap.size from Nat.lt_of_lt_of_le hgl HW.out.size)]
            exact hc1
          have HW7 := hide (HW.out.trans (hb7.mono HW.out.size))
          obtain ⟨m, hm⟩ : ∃ m, mlen 31 (s.data.toList.drop p) (s.data.toList.drop k) = m := ⟨_, rfl⟩
          rw [hm] at hm31 HQ ⊢
          clear hm hb7 HW hc1
          by_cases hgt : (b1 : Int) < m
          · have HB2 := hide (HQ.out.1 (by omega))
            clear HQ HBc HB
            go_wp2
            go_roundw
            case rel => exact ⟨k - p, j, m, k - p, by omega, by omega, by go_num, by go_num, rfl, by omega, by omega, HB2, HL2, HW7⟩
            case measure => simp [intOf]
          · have HB2 : Hid (best s.data.toList k (k - p) = (b1, b2)) := by
              show _ = _
              rw [HQ.out.2 (by omega), HBc.out]
            clear HQ HBc HB
            go_wp2
            go_roundw
            case rel => exact ⟨k - p, j, b1, b2, by omega, by omega, by go_num, rfl, rfl, hb1, hb2, HB2, HL2, HW7⟩
            case measure => simp [intOf]
  · rw [decide_eq_false h4]
    have HX := hide (best_short s.data.toList k (by rw [hl]; exact h4))
    go_wp2_with (first
      | (refine wpList_store_key rfl _ _ rfl w5.heap.size _ [0, 0, 0, 0] rfl rfl hv.out (fourAt_len _ _) rfl ?_
         intro w6 hw6
         obtain ⟨-, -, hb6, hsz6⟩ := note_prep (fourAt_len _ _) HM5.out hw6
         have HB6 := hide (HB5.out.trans (hb6.mono hsz5))
         clear hw6 hb6 HM5)
      | go_in)
    exact bodyPost_ret (results_tmp2 rfl _ _ _) rfl ⟨by rw [HX.out]; rfl, HB6.out⟩
end Go.Proofs.YtcjgjkejhkhknabGreatDoor

/-
  The walk of the program's tokens of a text.
-/
namespace Go.Proofs.YtcjgjkejhkhknabGreatDoor
open Go.RowKit
open Pack

theorem pmap_step {w5 w6 : World} {base b k : Nat} {s : List UInt8} {v v' : Value} (h : PMapAt w5 base b k s (fun g => v.ownBlock = some g)) (hg : w5.grownBy w6 v.ownBlock)
    (hloc : v'.ownBlock = v.ownBlock ∨ ∃ g, v'.ownBlock = some g ∧ w5.heap.size ≤ g) (hlt : ∀ g, v.ownBlock = some g → base ≤ g) : PMapAt w6 base b k s (fun g => v'.ownBlock = some g) := by
  have hb := (pmap_lt h).2
  have h1 := pmap_reno (No' := fun g => v.ownBlock = some g ∨ w5.heap.size ≤ g) h (fun g hg => hg)
  have h2 := pmap_kept h1 hg (fun j hj => ⟨Or.inl hj, fun e => by have := hlt j hj; omega⟩)
  refine pmap_reno h2 (fun g hg' => Or.inl ?_)
  rcases hloc with e | ⟨g', e, hge⟩
  · exact Or.inl (e ▸ hg')
  · rw [e] at hg'
    cases hg'
    exact Or.inr hge
theorem own_kept2 {w w' : World} {ok : Nat → Prop} {base : Nat} {e : TypeId} {size n : Nat} {v : Value} {xs : List Value} (h : w.ownsRow base e size v n xs) (hk : Kept2 w w' ok) (ho : ∀ g, v.ownBlock = some g → ok g) : w'.ownsRow base e size v n xs := by
  have hlt := h.lt
  obtain ⟨h1, h2⟩ := h
  refine ⟨h1, ?_⟩
  rcases h2 with h | ⟨g, cap, cur, rfl, a2, a3, a4⟩
  · exact .inl h
  · exact .inr ⟨g, cap, cur, rfl, a2, by rw [hk.2.2.2.2 g (hlt g rfl).2 (ho g rfl)]; exact a3, a4⟩
/-- What holds behind a round: the tokens, and the map of the places. -/
def TState (w wr : World) (out : Value) (s : List UInt8) (k : Nat) (l : List (Nat × Nat × List UInt8)) : Prop :=
  wr.ownsRow (w.heap.size + 1) 190 3 out l.length (tcells l) ∧ PMapAt wr (w.heap.size + 1) w.heap.size k s (fun g => out.ownBlock = some g) ∧ Below w.heap.size w wr ∧ w.heap.size + 1 ≤ wr.heap.size
theorem tstate_below {w wr w5 : World} {out : Value} {s : List UInt8} {k : Nat} {l : List (Nat × Nat × List UInt8)} (h : TState w wr out s k l) (hb : Below wr.heap.size wr w5) : TState w w5 out s k l :=
  ⟨own_below h.1 hb, pmap_kept h.2.1 (grown_old hb none) (fun j hj => by cases hj), h.2.2.1.trans (hb.mono h.2.2.1.size), Nat.le_trans h.2.2.2 hb.size⟩
/-- The tokens have grown. -/
theorem tstate_grown {w w5 w6 : World} {v v' : Value} {s : List UInt8} {k : Nat} {l l' : List (Nat × Nat × List UInt8)} (h : TState w w5 v s k l) (ho : w6.ownsRow (w.heap.size + 1) 190 3 v' l'.length (tcells l')) (hg : w5.grownBy w6 v.ownBlock)
    (hloc : v'.ownBlock = v.ownBlock ∨ ∃ g, v'.ownBlock = some g ∧ w5.heap.size ≤ g) : TState w w6 v' s k l' :=
  ⟨ho, pmap_step h.2.1 hg hloc (fun g hg => (h.1.lt g hg).1), h.2.2.1.grown hg (by have := h.2.2.2; omega) (fun j hj => by have := (h.1.lt j hj).1; omega), Nat.le_trans h.2.2.2 hg.size⟩
theorem note_tstate {w w6 : World} {v : Value} {s : ByteArray} {k k2 : Nat} {l : List (Nat × Nat × List UInt8)} (h : TState w w6 v s.data.toList k l) (hs : s.size ≤ 64) (h12 : k ≤ k2) (h2 : k2 ≤ s.size) :
    Calls Tryz.prog 163 #[.map (some w.heap.size), .string s, .int .i64 k, .int .i64 k2] w6 fun e w' => e = .returned (.tuple #[]) ∧ Hid (TState w w' v s.data.toList k2 l) := by
  refine (note_any s w.heap.size (w.heap.size + 1) k k2 w6 (fun g => v.ownBlock = some g) hs h12 h2 (fun g hg => (h.1.lt g hg).2) h.2.2.2 h.2.1).mono ?_
  rintro e w' ⟨rfl, hp, hk⟩
  refine ⟨rfl, own_kept2 h.1 hk (fun g hg => ⟨by have := (h.1.lt g hg).1; omega, Or.inr hg⟩), hp, h.2.2.1.trans (hk.down ?_ (fun i hi => ⟨by omega, Or.inl (by omega)⟩)), Nat.le_trans h.2.2.2 hk.2.2.2.1⟩
  have := h.2.2.2
  omega

set_option maxHeartbeats 1000000 in
set_option maxRecDepth 100000 in
theorem itoks_any (s : ByteArray) (w : World) (hs : s.size ≤ 64) :
    Calls Tryz.prog 136 #[.string s] w fun e w' => TRow w e w' (toks s.data.toList) := by
  obtain ⟨i0, hi, hz0, hz1, hz2⟩ := info_parts infoTok
  have hl : s.data.toList.length = s.size := by simp
  have hmm := @run_makeMap Tryz.prog
  go_enter Tryz.func136, Tryz.ntmps136
  go_wp2
  go_loopw [3, 5] (fun out av wr => ∃ (m k : Nat) (l : List (Nat × Nat × List UInt8)), k ≤ s.size ∧ l.length ≤ m ∧ m ≤ k ∧ av = .int .i64 k ∧ Hid (stepsT m s.data.toList = (k, l)) ∧ Hid (TState w wr out s.data.toList k l)) (fun _ av _ => 64 - (intOf av).toNat)
  case atStart => exact ⟨0, 0, [], by omega, by simp, by omega, rfl, rfl, World.ownsRow_nil _ _ _ _, pmap_made _ _ _, (Below.refl _ _).alloc (Nat.le_refl _) _, by simp⟩
  case round =>
    obtain ⟨m, k, l, hk, hll, hmk, rfl, HS, HT⟩ := hrel
    by_cases hlt : (k : Int) < s.size
    · go_wp2_with fail
      refine (longest_any s w.heap.size (w.heap.size + 1) k _ _ hs hk HT.out.2.1).mono ?_
      rintro e w5 ⟨rfl, hb5⟩
      have HT5 := hide (tstate_below HT.out hb5)
      have hw5 := HT5.out.2.2.2
      have hbo := best_of s.data.toList k k
      obtain ⟨b1, b2, hb⟩ : ∃ b1 b2, best s.data.toList k k = (b1, b2) := ⟨_, _, rfl⟩
      rw [hb] at hbo ⊢
      have HB := hide hb
      clear hb hb5 HT
      simp only at hbo ⊢
      by_cases h0 : (0 : Int) < b2
      · have h1 : 0 < b1 := by
          rcases hbo with e | ⟨h, _⟩
          · simp at e; omega
          · omega
        have hb31 : b1 ≤ 31 := by
          rcases hbo with e | ⟨_, h, _⟩
          · simp at e; omega
          · exact h
        have hb64 : b2 ≤ 64 := by
          rcases hbo with e | ⟨_, _, _, h, _⟩
          · simp at e; omega
          · omega
        obtain ⟨hst, hle⟩ := steps_match s.data.toList m k b1 b2 l (by omega) HS.out (by omega) HB.out h1
        have HS2 := hide hst
        have hle2 : k + b1 ≤ s.size := by omega
        clear HS HB hst hbo hle
        go_wp2_with (first
          | (at_builtin; refine wpList_append_own_at _ rfl _ _ 152 rfl (w.heap.size + 1) 190 i0 (.agg #[.int .i64 0, .int .i64 0, .string ⟨#[]⟩]) 3 32 Tryz.underlying152 hi hz0 hz1 hz2 rfl (by decide) _ _ _ rfl (by exact HT5.out.1.alloc _) ⟨w5.heap.size, 0, none⟩ 1 1 [Value.int .i64 _, Value.int .i64 _, Value.string _] rfl rfl (by exact three_new _ _ _ _ _) (tok3_one _ _ _) (by unfold maxLen; omega) (by omega) (by simp; omega) ?_
             intro v' w6 hown2 hgrow _ hloc
             have HT6 : Hid (TState w w6 v' s.data.toList k (l ++ [(b2, b1, [])])) := by
               refine tstate_grown HT5.out (by rw [← tcells_snoc, List.length_append]; exact hown2) ((World.grownBy_alloc w5 _ _).trans hgrow) (hloc.imp id (fun h => ⟨_, h, by simp⟩))
             clear hown2 hgrow hloc HT5)
          | fail)
        refine (note_tstate HT6.out hs (by omega) hle2).mono ?_
        rintro e w7 ⟨rfl, HT7⟩
        clear HT6
        go_wp2
        go_roundw
        case rel => exact ⟨m + 1, k + b1, l ++ [(b2, b1, [])], hle2, (by simp only [List.length_append, List.length_cons, List.length_nil] at *; omega), by omega, by go_num, HS2, HT7⟩
        case measure => simp [intOf]; omega
      · have hb0 : (best s.data.toList k k).1 = 0 := by
          rw [HB.out]
          rcases hbo with e | ⟨_, _, h, _⟩
          · simp at e; exact e.1
          · omega
        obtain ⟨u, hu⟩ : ∃ u : ByteArray, u = s.extract k (k + 1) := ⟨_, rfl⟩
        have hu1 : u = ⟨[s.data.toList.getD k 0].toArray⟩ := by
          rw [hu]
          apply ByteArray.ext
          apply Array.ext'
          rw [Lib.extract_data]
          simp only [Nat.add_sub_cancel_left]
          rw [List.drop_eq_getElem_cons (by omega)]
          simp [List.getD_eq_getElem?_getD, List.getElem?_eq_getElem (show k < s.data.toList.length by omega)]
        have hsl : ∀ W, (Instr.slice 9 (.string s) (some (.int .i64 (k : Int))) (some (.int .i64 ((k : Int) + 1))) none).run Tryz.prog W = .ok (.string u) W := by
          intro W
          rw [run_slice_string_if W 9 s .i64 .i64 _ _ Tryz.underlying9, if_pos (by omega), if_pos (by omega), hu]
          rfl
        have hK := (kept_steps s.data.toList (by omega) m).1.2.1
        rw [HS.out] at hK
        have hfit := fit_of [] _ l (by simp) hK
        have hnext : ∃ l2, l2.length ≤ l.length + 1 ∧ stepsT (m + 1) s.data.toList = (k + 1, l2) ∧ ∀ out, w5.ownsRow (w.heap.size + 1) 190 3 out l.length (tcells l) → Calls Tryz.prog 162 #[out, .string u] w5 fun e w' => WRow w5 (w.heap.size + 1) out e w' l2 := by
          by_cases hn : ∃ (l' : List (Nat × Nat × List UInt8)) (z : Nat) (t : List UInt8), l = l' ++ [(0, z, t)] ∧ t.length < 31
          · obtain ⟨l', z, t, rfl, ht⟩ := hn
            refine ⟨_, ?_, steps_more s.data.toList m k z l' t HS.out (by omega) hb0 ht, fun out ho => with_more out l' z t _ u _ w5 hu1 ?_ ht ho⟩
            · simp
            · simp at hll; omega
          · refine ⟨_, ?_, steps_new s.data.toList m k l HS.out (by omega) hb0 (fun a z t e h => hn ⟨a, z, t, e, h⟩), fun out ho => with_new out l _ u _ w5 hu1 (by omega) hw5 ho ?_⟩
            · simp
            · rcases List.eq_nil_or_concat l with hl0 | ⟨l', ⟨b, z, t⟩, hl0⟩
              · exact Or.inl hl0
              · rw [List.concat_eq_append] at hl0
                refine Or.inr ⟨l', b, z, t, hl0, ?_⟩
                have hft := hfit (b, z, t) (by rw [hl0]; simp)
                rcases hft with ⟨e1, _, e2, _⟩ | ⟨e1, _⟩
                · refine Or.inr ⟨e1, ?_⟩
                  simp only at e1 e2
                  have : ¬ t.length < 31 := fun h => hn ⟨l', z, t, by rw [hl0, e1], h⟩
                  omega
                · exact Or.inl e1
        obtain ⟨l2, hl2, hst, hcall⟩ := hnext
        have HS2 := hide hst
        have HC := hide hcall
        have hl2m : l2.length ≤ m + 1 := by omega
        clear HS HB hst hcall hbo hfit hK hu hu1 hb0 hl2
        go_wp2_with fail
        refine (HC.out _ HT5.out.1).mono ?_
        rintro e w6 ⟨v', rfl, ho6, hg6, hloc6⟩
        have HT6 := hide (tstate_grown HT5.out ho6 hg6 hloc6)
        clear ho6 hg6 hloc6 HT5 HC
        go_wp2_with fail
        refine (note_tstate HT6.out hs (by omega) (show k + 1 ≤ s.size by omega)).mono ?_
        rintro e w7 ⟨rfl, HT7⟩
        clear HT6
        go_wp2
        go_roundw
        case rel => exact ⟨m + 1, k + 1, l2, by omega, hl2m, by omega, by go_num, HS2, HT7⟩
        case measure => simp [intOf]; omega
    · have ek : k = s.size := by omega
      have ET : Hid (toks s.data.toList = l) := steps_end _ m l (by rw [HS.out, ek, hl]) (by omega)
      go_wp2
      go_ret
      rw [ET.out]
      exact ⟨_, rfl, own_lower HT.out.1 (by omega), HT.out.2.2.1⟩

theorem itoks_long (s : ByteArray) (w : World) (hs : 64 < s.size) :
    Calls Tryz.prog 136 #[.string s] w fun e w' => TRow w e w' [] := by
  have h1 : (64 : Int) < s.size := by omega
  go_enter Tryz.func136, Tryz.ntmps136
  go_wp2
  go_ret
  exact ⟨_, rfl, World.ownsRow_nil _ _ _ _, Below.refl _ _⟩
end Go.Proofs.YtcjgjkejhkhknabGreatDoor
