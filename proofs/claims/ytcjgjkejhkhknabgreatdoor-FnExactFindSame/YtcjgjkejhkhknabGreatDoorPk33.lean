/-
  FdOr; IMatch; LMath
-/
import Derived.Test.YtcjgjkejhkhknabGreatDoorPk16
import Derived.Test.YtcjgjkejhkhknabGreatDoorPk8
import Derived.Test.YtcjgjkejhkhknabGreatDoorIScan2
import Derived.Test.YtcjgjkejhkhknabGreatDoorPk0
import Derived.Test.YtcjgjkejhkhknabGreatDoorPk11
import Derived.Test.YtcjgjkejhkhknabGreatDoorPk13
set_option maxHeartbeats 1000000
set_option maxRecDepth 100000
namespace Go.Proofs.YtcjgjkejhkhknabGreatDoor
open Go.RowKit
open Words
def fd0 : Fnd := ⟨0, 0, ⟨0, 0, 0, 0, 0, ⟨#[]⟩⟩⟩
def fdOr (o : Option Fnd) : Fnd := o.getD fd0
def FdAt (W : World) (g : Nat) (x : Fnd) : Prop := W.heap[g]? = some (.cells #[.int .i64 x.block, .int .i64 x.leaf, .int .i64 x.page.kind, .int .i64 x.page.seq, .int .i64 x.page.tx, .int .i64 x.page.part, .int .i64 x.page.count, .string x.page.text] 77 (0, 0))
theorem FdAt.cells {W : World} {g : Nat} {x : Fnd} (h : FdAt W g x) : W.cell? ⟨g, 0, none⟩ = some (.int .i64 x.block) ∧ W.cell? ⟨g, 1, none⟩ = some (.int .i64 x.leaf) ∧ W.cell? ⟨g, 2, none⟩ = some (.int .i64 x.page.kind) ∧ W.cell? ⟨g, 3, none⟩ = some (.int .i64 x.page.seq) ∧ W.cell? ⟨g, 4, none⟩ = some (.int .i64 x.page.tx) ∧ W.cell? ⟨g, 5, none⟩ = some (.int .i64 x.page.part) ∧ W.cell? ⟨g, 6, none⟩ = some (.int .i64 x.page.count) ∧ W.cell? ⟨g, 7, none⟩ = some (.string x.page.text) :=
 ⟨cell_of_row _ _ 0 _ _ _ h, cell_of_row _ _ 1 _ _ _ h, cell_of_row _ _ 2 _ _ _ h, cell_of_row _ _ 3 _ _ _ h, cell_of_row _ _ 4 _ _ _ h, cell_of_row _ _ 5 _ _ _ h, cell_of_row _ _ 6 _ _ _ h, cell_of_row _ _ 7 _ _ _ h⟩
theorem FdAt.fr {W : World} {g : Nat} {x : Fnd} (h : FdAt W g x) (k : Nat) : W.frozen? ⟨g, k, none⟩ = false := frozen_of_row _ _ k _ _ h
theorem eight_cs {w : World} {g : Nat} {t : TypeId} {y0 y1 y2 y3 y4 y5 y6 y7 a b c d e f k l : Value} (h : w.heap[g]? = some (.cells #[y0, y1, y2, y3, y4, y5, y6, y7] t (0, 0))) :
 ((((((((w.setCell ⟨g, 0, none⟩ a).setCell ⟨g, 1, none⟩ b).setCell ⟨g, 2, none⟩ c).setCell ⟨g, 3, none⟩ d).setCell ⟨g, 4, none⟩ e).setCell ⟨g, 5, none⟩ f).setCell ⟨g, 6, none⟩ k).setCell ⟨g, 7, none⟩ l).heap[g]? = some (.cells #[a, b, c, d, e, f, k, l] t (0, 0)) := by
 have h0 : (w.setCell ⟨g, 0, none⟩ a).heap[g]? = some (.cells #[a, y1, y2, y3, y4, y5, y6, y7] t (0, 0)) := heap_setCell_same _ _ 0 _ _ _ h
 generalize w.setCell ⟨g, 0, none⟩ a = w0 at h0 ⊢
 have h1 : (w0.setCell ⟨g, 1, none⟩ b).heap[g]? = some (.cells #[a, b, y2, y3, y4, y5, y6, y7] t (0, 0)) := heap_setCell_same _ _ 1 _ _ _ h0
 generalize w0.setCell ⟨g, 1, none⟩ b = w1 at h1 ⊢
 have h2 : (w1.setCell ⟨g, 2, none⟩ c).heap[g]? = some (.cells #[a, b, c, y3, y4, y5, y6, y7] t (0, 0)) := heap_setCell_same _ _ 2 _ _ _ h1
 generalize w1.setCell ⟨g, 2, none⟩ c = w2 at h2 ⊢
 have h3 : (w2.setCell ⟨g, 3, none⟩ d).heap[g]? = some (.cells #[a, b, c, d, y4, y5, y6, y7] t (0, 0)) := heap_setCell_same _ _ 3 _ _ _ h2
 generalize w2.setCell ⟨g, 3, none⟩ d = w3 at h3 ⊢
 have h4 : (w3.setCell ⟨g, 4, none⟩ e).heap[g]? = some (.cells #[a, b, c, d, e, y5, y6, y7] t (0, 0)) := heap_setCell_same _ _ 4 _ _ _ h3
 generalize w3.setCell ⟨g, 4, none⟩ e = w4 at h4 ⊢
 have h5 : (w4.setCell ⟨g, 5, none⟩ f).heap[g]? = some (.cells #[a, b, c, d, e, f, y6, y7] t (0, 0)) := heap_setCell_same _ _ 5 _ _ _ h4
 generalize w4.setCell ⟨g, 5, none⟩ f = w5 at h5 ⊢
 have h6 : (w5.setCell ⟨g, 6, none⟩ k).heap[g]? = some (.cells #[a, b, c, d, e, f, k, y7] t (0, 0)) := heap_setCell_same _ _ 6 _ _ _ h5
 generalize w5.setCell ⟨g, 6, none⟩ k = w6 at h6 ⊢
 exact heap_setCell_same _ _ 7 _ _ _ h6
theorem FdAt.set {W : World} {g : Nat} {x : Fnd} (h : FdAt W g x) (y : Fnd) :
 FdAt ((((((((W.setCell ⟨g, 0, none⟩ (.int .i64 y.block)).setCell ⟨g, 1, none⟩ (.int .i64 y.leaf)).setCell ⟨g, 2, none⟩ (.int .i64 y.page.kind)).setCell ⟨g, 3, none⟩ (.int .i64 y.page.seq)).setCell ⟨g, 4, none⟩ (.int .i64 y.page.tx)).setCell ⟨g, 5, none⟩ (.int .i64 y.page.part)).setCell ⟨g, 6, none⟩ (.int .i64 y.page.count)).setCell ⟨g, 7, none⟩ (.string y.page.text)) g y := eight_cs h
theorem below_fd {B g : Nat} {a w : World} {v0 v1 v2 v3 v4 v5 v6 v7 : Value} (h : Below B a w) (hg : B ≤ g) :
 Below B a ((((((((w.setCell ⟨g, 0, none⟩ v0).setCell ⟨g, 1, none⟩ v1).setCell ⟨g, 2, none⟩ v2).setCell ⟨g, 3, none⟩ v3).setCell ⟨g, 4, none⟩ v4).setCell ⟨g, 5, none⟩ v5).setCell ⟨g, 6, none⟩ v6).setCell ⟨g, 7, none⟩ v7) :=
 (((((((h.setCell (p := ⟨g, 0, none⟩) hg _).setCell (p := ⟨g, 1, none⟩) hg _).setCell (p := ⟨g, 2, none⟩) hg _).setCell (p := ⟨g, 3, none⟩) hg _).setCell (p := ⟨g, 4, none⟩) hg _).setCell (p := ⟨g, 5, none⟩) hg _).setCell (p := ⟨g, 6, none⟩) hg _).setCell (p := ⟨g, 7, none⟩) hg _
theorem infoFdS : (Tryz.prog.info? 77).map (·.size) = some 8 := by kernel_rfl
theorem results_fd2 {fn : Func} {p q : Tmp} (h : fn.results = #[.cell p 77, .tmp q]) (tmps : Array Value) (w : World) (g : Nat) (x : Fnd)
 (hp : tmps.getD p undef = .pointer (some ⟨g, 0, none⟩)) (hc : FdAt w g x) :
 (results fn tmps).run Tryz.prog w = .ok (.tuple #[fdVal x, tmps.getD q undef]) w := by
 have hp' : tmps[p]?.getD undef = .pointer (some ⟨g, 0, none⟩) := by simpa using hp
 have hl := run_loadVar_row (P := Tryz.prog) w g 77 77 _ _ _ hc Tryz.underlying77 rfl infoFdS
 simp [results, h, hp', asAddr, hl, fdVal]
theorem FdRd.all {w : World} {a : Option Addr} {len : Nat} {ls : List Fnd} (h : FdRd w a len ls) {k : Nat} {t : Fnd} (hk : ls[k]? = some t) :
 ∃ b off, a = some ⟨b, off, none⟩ ∧ b < w.heap.size ∧ w.cell? ⟨b, off + k * 8, none⟩ = some (.int .i64 t.block) ∧ w.cell? ⟨b, off + k * 8 + 1, none⟩ = some (.int .i64 t.leaf) ∧
  w.cell? ⟨b, off + k * 8 + 2, none⟩ = some (.int .i64 t.page.kind) ∧ w.cell? ⟨b, off + k * 8 + 3, none⟩ = some (.int .i64 t.page.seq) ∧ w.cell? ⟨b, off + k * 8 + 4, none⟩ = some (.int .i64 t.page.tx) ∧
  w.cell? ⟨b, off + k * 8 + 5, none⟩ = some (.int .i64 t.page.part) ∧ w.cell? ⟨b, off + k * 8 + 6, none⟩ = some (.int .i64 t.page.count) ∧ w.cell? ⟨b, off + k * 8 + 7, none⟩ = some (.string t.page.text) ∧ w.cell? ⟨b, off + k * 8 + 2 + 2, none⟩ = some (.int .i64 t.page.tx) := by
 obtain ⟨b, off, e, h0, h1, h2, h3, h4, h5, h6, h7, h8⟩ := h.at hk
 exact ⟨b, off, e, h0, h1, h2, h3, h4, h5, h6, h7, h8, h5⟩
theorem FRes.rd {W : World} {B : Nat} {u : Value} {M : List Fnd} (h : FRes W B u M) : ∃ ad cap, u = .slice ad M.length cap ∧ FdRd W ad M.length M ∧ M.length ≤ 1000000000000000000 := by
 rcases h with ⟨rfl, rfl⟩ | ⟨g, cap, rfl, hB, hr, hl⟩
 ·exact ⟨none, 0, rfl, ⟨rfl, by unfold maxLen; simp, fun h => by simp at h⟩, by simp⟩
 ·refine ⟨_, _, rfl, ⟨rfl, by unfold maxLen; omega, fun _ => ⟨g, 0, rfl, hr.lt, fun i t hi j v hv => ?_⟩⟩, hl⟩
  rw [Nat.zero_add]
  exact hr.cell hi j hv
end Go.Proofs.YtcjgjkejhkhknabGreatDoor
namespace Go.Proofs.YtcjgjkejhkhknabGreatDoor
open Go.RowKit
open Pack
theorem imatch_any (s : ByteArray) (i j : Nat) (w : World) (hs : s.size ≤ 64) (hij : i < j) (hj : j ≤ s.size) :
 Calls Tryz.prog 174 #[.string s, .int .i64 i, .int .i64 j] w fun e w' => e = .returned (.int .i64 (mlen 31 (s.data.toList.drop i) (s.data.toList.drop j) : Nat)) ∧ Below w.heap.size w w' := by
 have hl : s.data.toList.length = s.size := by simp
 go_enter Tryz.func174, Tryz.ntmps174
 go_wp2
 go_loopw [7] (fun nv wr => ∃ n : Nat, n ≤ 31 ∧ j + n ≤ s.size ∧ nv = .int .i64 n ∧ Hid (mlen 31 (s.data.toList.drop i) (s.data.toList.drop j) = n + mlen (31 - n) (s.data.toList.drop (i + n)) (s.data.toList.drop (j + n))) ∧ Below w.heap.size w wr) (fun nv _ => 31 - (intOf nv).toNat)
 case atStart => exact ⟨0, by omega, by omega, rfl, (by show _ = 0 + _; simp), Below.refl _ _⟩
 case round =>
  obtain ⟨n, hn, hjn, rfl, HM, hbel⟩ := hrel
  have w1 : IntKind.i64.wrap ((j : Int) + n) = (j : Int) + n := by rw [IntKind.wrap_i64]; omega
  have w2 : IntKind.i64.wrap ((i : Int) + n) = (i : Int) + n := by rw [IntKind.wrap_i64]; omega
  have HB := hide hbel
  clear hbel
  by_cases h31 : n < 31
  ·have d1 : decide ((n : Int) < 31) = true := decide_eq_true (by omega)
   by_cases hlt : j + n < s.size
   ·have d2 : decide ((j : Int) + n < s.size) = true := decide_eq_true (by omega)
    have f1 := byte_ofT s (i + n) ((i : Int) + n) (by omega) (by omega)
    have f2 := byte_ofT s (j + n) ((j : Int) + n) (by omega) (by omega)
    by_cases heq : s.data.toList.getD (i + n) 0 = s.data.toList.getD (j + n) 0
    ·have HM2 : Hid (mlen 31 (s.data.toList.drop i) (s.data.toList.drop j) = (n + 1) + mlen (31 - (n + 1)) (s.data.toList.drop (i + (n + 1))) (s.data.toList.drop (j + (n + 1)))) := by
      show _ = _
      rw [HM.out, show 31 - n = (31 - (n + 1)) + 1 by omega, mlen_yes _ _ _ _ (by omega) (by omega) heq, show i + n + 1 = i + (n + 1) by omega, show j + n + 1 = j + (n + 1) by omega]
      omega
     rw [heq] at f1
     generalize (s.data.toList.getD (j + n) 0).toNat = c at f1 f2
     have e1 : ((c : Int) == (c : Int)) = true := by simp
     clear HM heq hl
     go_wp2
     go_quiet (fail)
     go_wp2
     go_roundw
     case rel => exact ⟨n + 1, by omega, by omega, by go_num, HM2, below_drewN HB.out _⟩
     case measure => simp [intOf]; omega
    ·have HM2 : Hid (mlen 31 (s.data.toList.drop i) (s.data.toList.drop j) = n) := by
      show _ = _
      rw [HM.out, mlen_no _ _ _ _ (by omega) (by omega) heq]; rfl
     have hne : ((((s.data.toList.getD (i + n) 0).toNat : Nat) : Int) == (((s.data.toList.getD (j + n) 0).toNat : Nat) : Int)) = false := by
      rw [beq_eq_false_iff_ne]
      intro h
      exact heq (UInt8.toNat_inj.1 (by omega))
     generalize (s.data.toList.getD (i + n) 0).toNat = c1 at f1 hne
     generalize (s.data.toList.getD (j + n) 0).toNat = c2 at f2 hne
     clear HM heq hl
     go_wp2
     go_quiet (fail)
     go_wp2
     go_ret
     exact ⟨by rw [HM2.out]; rfl, below_drewN HB.out _⟩
   ·have d2 : decide ((j : Int) + n < s.size) = false := decide_eq_false (by omega)
    have HM2 : Hid (mlen 31 (s.data.toList.drop i) (s.data.toList.drop j) = n) := by
     show _ = _
     rw [HM.out, mlen_end _ _ _ _ (by omega)]; rfl
    clear HM hl
    go_wp2
    go_quiet (fail)
    go_wp2
    go_ret
    exact ⟨by rw [HM2.out]; rfl, below_drewN HB.out _⟩
  ·have d1 : decide ((n : Int) < 31) = false := decide_eq_false (by omega)
   have e31 : n = 31 := by omega
   have HM2 : Hid (mlen 31 (s.data.toList.drop i) (s.data.toList.drop j) = n) := by
    show _ = _
    rw [HM.out, e31]; rfl
   clear HM hl e31
   go_wp2
   go_quiet (fail)
   go_wp2
   go_ret
   exact ⟨by rw [HM2.out]; rfl, below_drewN HB.out _⟩
end Go.Proofs.YtcjgjkejhkhknabGreatDoor
namespace Go.Proofs.YtcjgjkejhkhknabGreatDoor.Pack
open Go.Proofs.YtcjgjkejhkhknabGreatDoor
theorem filter_snoc (f : Nat → Bool) (n p : Nat) (L : List Nat) (h : (List.range n).filter f = L ++ [p]) : p < n ∧ f p = true ∧ (List.range p).filter f = L ∧ ∀ x, p < x → x < n → f x = false := by
 induction n with
 | zero => simp at h
 | succ n ih =>
  rw [List.range_succ, List.filter_append] at h
  by_cases hn : f n = true
  ·have e1 : List.filter f [n] = [n] := by simp [hn]
   rw [e1] at h
   obtain ⟨h1, h2⟩ := List.append_inj' h rfl
   have hp : n = p := by simpa using h2
   subst hp
   exact ⟨by omega, hn, h1, fun x a b => by omega⟩
  ·have e1 : List.filter f [n] = [] := by simp [hn]
   rw [e1, List.append_nil] at h
   obtain ⟨a, b, c, d⟩ := ih h
   refine ⟨by omega, b, c, fun x hx hx2 => ?_⟩
   by_cases he : x = n
   ·subst he; simpa using hn
   ·exact d x hx (by omega)
theorem filter_none (f : Nat → Bool) (n : Nat) (h : (List.range n).filter f = []) : ∀ x, x < n → f x = false := by
 intro x hx
 have := List.filter_eq_nil_iff.1 h x (List.mem_range.2 hx)
 simpa using this
theorem four_eq (s : List UInt8) (k : Nat) (h : k + 4 ≤ s.length) : fourAt s k = [s.getD k 0, s.getD (k + 1) 0, s.getD (k + 2) 0, s.getD (k + 3) 0] := by
 unfold fourAt
 rw [if_pos h, drop_cons s k (by omega), drop_cons s (k + 1) (by omega), drop_cons s (k + 1 + 1) (by omega), drop_cons s (k + 1 + 1 + 1) (by omega)]
 rfl
theorem mlen_four (s : List UInt8) (x k : Nat) (hx : x < k) (h : k + 4 ≤ s.length) : 4 ≤ mlen 31 (s.drop x) (s.drop k) ↔ fourAt s x = fourAt s k := by
 rw [four_eq s x (by omega), four_eq s k h]
 by_cases h0 : s.getD x 0 = s.getD k 0
 ·rw [mlen_yes 30 s x k (by omega) (by omega) h0]
  by_cases h1 : s.getD (x + 1) 0 = s.getD (k + 1) 0
  ·rw [mlen_yes 29 s (x + 1) (k + 1) (by omega) (by omega) h1]
   by_cases h2 : s.getD (x + 2) 0 = s.getD (k + 2) 0
   ·rw [mlen_yes 28 s (x + 2) (k + 2) (by omega) (by omega) h2]
    by_cases h3 : s.getD (x + 3) 0 = s.getD (k + 3) 0
    ·rw [mlen_yes 27 s (x + 3) (k + 3) (by omega) (by omega) h3, h0, h1, h2, h3]
     simp
    ·rw [mlen_no 28 s (x + 3) (k + 3) (by omega) (by omega) h3]
     simp only [List.cons.injEq, h3, and_true, and_false, iff_false]
     omega
   ·rw [mlen_no 29 s (x + 2) (k + 2) (by omega) (by omega) h2]
    simp only [List.cons.injEq, h2, and_true, false_and, and_false, iff_false]
    omega
  ·rw [mlen_no 30 s (x + 1) (k + 1) (by omega) (by omega) h1]
   simp only [List.cons.injEq, h1, and_true, false_and, and_false, iff_false]
   omega
 ·rw [mlen_no 31 s x k (by omega) (by omega) h0]
  simp only [List.cons.injEq, h0, and_true, false_and, iff_false]
  omega
theorem best_skip (s : List UInt8) (k c d : Nat) (h : ∀ x, x < k → k - (c + d) ≤ x → x < k - c → ¬ 4 ≤ mlen 31 (s.drop x) (s.drop k)) (hc : c + d ≤ k) : best s k (c + d) = best s k c := by
 induction d with
 | zero => rfl
 | succ d ih =>
  rw [← Nat.add_assoc, best_no, ih (fun x a b e => h x a (by omega) e) (by omega)]
  intro hh
  exact h (k - (c + d + 1)) (by omega) (by omega) (by omega) hh.1
theorem best_short (s : List UInt8) (k : Nat) (h : ¬ k + 4 ≤ s.length) : best s k k = (0, 0) := by
 have := best_skip s k 0 k (fun x _ _ _ h4 => by
  have := (mlen_le 31 (s.drop x) (s.drop k)).2
  rw [List.length_drop] at this
  omega) (by omega)
 rw [Nat.zero_add] at this
 exact this
theorem best_place (s : List UInt8) (k c p : Nat) (L : List Nat) (hc : c ≤ k) (h4 : k + 4 ≤ s.length) (h : placesN s (fourAt s k) (k - c) = L ++ [p]) :
 p < k - c ∧ placesN s (fourAt s k) p = L ∧ 4 ≤ mlen 31 (s.drop p) (s.drop k) ∧
  ((best s k c).1 < mlen 31 (s.drop p) (s.drop k) → best s k (k - p) = (mlen 31 (s.drop p) (s.drop k), k - p)) ∧ (¬ (best s k c).1 < mlen 31 (s.drop p) (s.drop k) → best s k (k - p) = best s k c) := by
 obtain ⟨h1, h2, h3, h5⟩ := filter_snoc _ _ _ _ h
 have hp4 : fourAt s p = fourAt s k := by simp at h2; exact h2.2
 have hm := (mlen_four s p k (by omega) h4).2 hp4
 have hsk := best_skip s k c (k - p - 1 - c) (fun x a b d hh => by
  have e1 := (mlen_four s x k a h4).1 hh
  have := h5 x (by omega) d
  simp [e1] at this
  omega) (by omega)
 rw [show c + (k - p - 1 - c) = k - p - 1 by omega] at hsk
 have e2 : k - (k - p - 1 + 1) = p := by omega
 have e3 : k - p - 1 + 1 = k - p := by omega
 refine ⟨h1, h3, hm, fun hb => ?_, fun hb => ?_⟩
 ·have := best_yes s k (k - p - 1) (by rw [e2]; exact hm) (by rw [e2, hsk]; exact hb)
  rw [e2, e3] at this
  exact this
 ·have := best_no s k (k - p - 1) (by rw [e2, hsk]; exact fun hh => hb hh.2)
  rw [e3, hsk] at this
  exact this
theorem best_last (s : List UInt8) (k c : Nat) (hc : c ≤ k) (h4 : k + 4 ≤ s.length) (h : placesN s (fourAt s k) (k - c) = []) : best s k k = best s k c := by
 have := best_skip s k c (k - c) (fun x a b d hh => by
  have e1 := (mlen_four s x k a h4).1 hh
  have := filter_none _ _ h x d
  simp [e1] at this
  omega) (by omega)
 rwa [show c + (k - c) = k by omega] at this
end Go.Proofs.YtcjgjkejhkhknabGreatDoor.Pack
