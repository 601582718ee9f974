/-
  impl.tornOn.
-/
import Derived.Test.YtcjgjkejhkhknaaPq88
import Derived.Test.YtcjgjkejhkhknaaAfterW
import Derived.Deep.RegionWith
namespace Go.Proofs.Ytcjgjkejhkhknaa
open Go.RowKit

theorem isP (b lf : Int) (t : ByteArray) (w : World) : (Instr.typeAssert (.iface 143 (.agg #[.int .i64 b, .int .i64 lf, .string t])) 101 143 true).run Try.prog w = .ok (.tuple #[.agg #[.int .i64 b, .int .i64 lf, .string t], .bool true]) w := by kernel_rfl
theorem noP (b : Int) (w : World) : (Instr.typeAssert (.iface 145 (.agg #[.int .i64 b])) 101 143 true).run Try.prog w = .ok (.tuple #[.agg #[.int .i64 0, .int .i64 0, .string ⟨#[]⟩], .bool false]) w := by kernel_rfl
theorem isW (b : Int) (w : World) : (Instr.typeAssert (.iface 145 (.agg #[.int .i64 b])) 101 145 true).run Try.prog w = .ok (.tuple #[.agg #[.int .i64 b], .bool true]) w := by kernel_rfl
theorem half_run (t : ByteArray) (h : Nat) (w : World) (hh : t.size / 2 = h) : (Instr.slice 9 (.string t) none (some (.int .i64 (h : Int))) none).run Try.prog w = .ok (.string (halfT t)) w := by
  rw [run_slice_string_h w 9 t Try.underlying9 .i64 _ (by omega) (by omega)]
  simp [halfT, hh]
/-- The first j leaves are torn. -/
def tornL (j : Nat) (ls : List (Int × ByteArray)) : List (Int × ByteArray) := List.replicate j (2, ⟨#[]⟩) ++ ls.drop j
theorem tornL_len {j : Nat} {ls : List (Int × ByteArray)} (h : j ≤ ls.length) : (tornL j ls).length = ls.length := by simp [tornL]; omega
theorem tornL_succ {j : Nat} {ls : List (Int × ByteArray)} (h : j < ls.length) : (tornL j ls).set j (2, ⟨#[]⟩) = tornL (j + 1) ls := by
  unfold tornL
  rw [List.set_append_right _ _ (by simp), List.length_replicate, Nat.sub_self, List.drop_eq_getElem_cons h, List.set_cons_zero, List.replicate_succ', List.append_assoc]
  rfl
theorem tornL_all {ls : List (Int × ByteArray)} {j : Nat} (h : j = ls.length) : tornL j ls = List.replicate ls.length (2, ⟨#[]⟩) := by
  subst h
  unfold tornL
  rw [List.drop_eq_nil_of_le (Nat.le_refl _), List.append_nil]
theorem After.done {w w' : World} {g2 : Nat} {v : Value} {bs : List Bk} (h : After w w' g2 v bs) : (w'.setCell ⟨w.heap.size + 1, 0, none⟩ v).heap[w.heap.size + 1]? = some (.cells #[v] 28 (0, 0)) ∧ FlashOf (w'.setCell ⟨w.heap.size + 1, 0, none⟩ v) w.heap.size v bs ∧ Below w.heap.size w (w'.setCell ⟨w.heap.size + 1, 0, none⟩ v) :=
  ⟨row_set h.1 0 v, (h.2.2.1.cell (show w.heap.size + 1 < w.heap.size + 2 by omega) 0 v).down (by omega), h.2.2.2.setCell (p := ⟨w.heap.size + 1, 0, none⟩) (by show _ ≤ _ + 1; omega) v⟩
theorem After.drew {w w' : World} {g2 : Nat} {v : Value} {bs : List Bk} (h : After w w' g2 v bs) : After w w'.drew g2 v bs := h.below (Below.refl _ _).drew

set_option maxHeartbeats 800000 in
set_option maxRecDepth 100000 in
theorem tornP_b (v : Value) (bs : List Bk) (kb j : Nat) (t : ByteArray) (r : Bk) (w : World) (hs : Sml bs) (ha : RdB w v bs) (hr : bs[kb]? = some r) (h4 : r.2.2.length = 4) (hj : j < 4) (ht : t.size ≤ 1048576) :
    Calls Try.prog 63 #[.agg #[v], .iface 143 (.agg #[.int .i64 kb, .int .i64 j, .string t])] w fun e w' => ∃ u, e = .returned (.agg #[u]) ∧ FlashOf w' w.heap.size u (bs.modify kb (fun r => (r.1, r.2.1, r.2.2.set j (2, halfT t)))) ∧ Below w.heap.size w w' := by
  obtain ⟨vd, vc, rfl⟩ := ha.form
  have hb0 := ((Below.refl w.heap.size w).alloc (Nat.le_refl _) (.cells #[.slice vd bs.length vc] 28)).alloc (by simp) (.cells #[.slice none 0 0] 28)
  have F0 := hide (ha.below hb0)
  have HZ := hide (show ((w.alloc (.cells #[.slice vd bs.length vc] 28)).alloc (.cells #[.slice none 0 0] 28)).heap.size = w.heap.size + 2 by simp)
  have HS := hide hs
  have HR := hide hr
  have H4 := hide h4
  have aP := isP kb j t
  obtain ⟨h, hh⟩ : ∃ h, t.size / 2 = h := ⟨_, rfl⟩
  have sH := fun W => half_run t h W hh
  have hz := halfT_size t
  have hkb := (List.getElem?_eq_some_iff.1 hr).1
  have e2 : (t.size : Int).tdiv 2 = (h : Int) := by rw [Int.tdiv_eq_ediv_of_nonneg (by omega)]; omega
  have e3 : (t.size : Int) / 2 = (h : Int) := by omega
  obtain ⟨q, hq⟩ : ∃ q, halfT t = q := ⟨_, rfl⟩
  rw [hq] at sH hz ⊢
  have hqs : q.size ≤ 1048576 := by omega
  clear hq hh hz
  clear ha hs hb0 hr h4
  go_enter Try.func63, Try.ntmps63
  go_wp2_with fail
  refine (icopy_b _ bs _ HS.out F0.out).mono ?_
  rintro e w1 ⟨x, rfl, fo, b1⟩
  obtain ⟨xd, xc, rfl⟩ := fo.form
  rw [HZ.out] at fo b1
  have AF2 := hide (after_start fo b1)
  obtain ⟨g2, hg2⟩ : ∃ g2, w1.heap.size = g2 := ⟨_, rfl⟩
  rw [hg2] at AF2
  have b3 := (Below.refl (w1.alloc (.cells #[.slice xd bs.length xc] 28)).heap.size (w1.alloc (.cells #[.slice xd bs.length xc] 28))).alloc (Nat.le_refl _) (.cells #[.int .i64 kb, .int .i64 j, .string t] 143)
  have AF3 := hide (AF2.out.below b3)
  have pc := heap_alloc_new (w1.alloc (.cells #[.slice xd bs.length xc] 28)) (.cells #[.int .i64 kb, .int .i64 j, .string t] 143)
  rw [alloc_size hg2] at pc
  have PC := hide pc
  clear b1 fo F0 HZ b3 AF2 pc
  go_wp2_with fail
  try rw [hg2]
  clear hg2
  generalize (w1.alloc (.cells #[.slice xd bs.length xc] 28)).alloc (.cells #[.int .i64 kb, .int .i64 j, .string t] 143) = w3 at AF3 PC ⊢
  refine (fclone_any q w3 hqs).mono ?_
  rintro e w7 ⟨rfl, b7⟩
  have AF7 := hide (AF3.out.below b7)
  have PC7 := hide ((b7.block _ (Array.getElem?_eq_some_iff.1 PC.out).1).trans PC.out)
  have n2 : w7.cell? ⟨g2, 0, none⟩ = some (.slice xd bs.length xc) := cell_of_row _ _ 0 _ _ _ AF7.out.2.1
  have p0 : w7.cell? ⟨g2 + 1, 0, none⟩ = some (.int .i64 kb) := cell_of_row _ _ 0 _ _ _ PC7.out
  have p1 : w7.cell? ⟨g2 + 1, 1, none⟩ = some (.int .i64 j) := cell_of_row _ _ 1 _ _ _ PC7.out
  obtain ⟨gu, gl, lcap, rfl, c9, ⟨x1, d1⟩, ⟨x2, d2⟩, f1, f2, hput⟩ := AF7.out.put (j := j) HR.out (by rw [H4.out]; exact hj)
  rw [H4.out] at c9
  have AF8 := hide ((hput 2 q).drew)
  have kk0 : (0 : Int) ≤ kb := by omega
  have kk1 : (kb : Int) < bs.length := by omega
  have jj0 : (0 : Int) ≤ j := by omega
  have jj1 : (j : Int) < 4 := by omega
  clear b7 AF3 PC PC7 hput sH aP e2 e3
  go_wp2_with fail
  go_region
  clear n2 p0 p1 c9 d1 d2 f1 f2
  generalize ((w7.setCell ⟨gl, j * 2, none⟩ (.int .i64 2)).setCell ⟨gl, j * 2 + 1, none⟩ (.string q)).drew = w8 at AF8 ⊢
  have n1 : w8.cell? ⟨w.heap.size + 1, 0, none⟩ = some (.slice none 0 0) := cell_of_row _ _ 0 _ _ _ AF8.out.1
  have n2 : w8.cell? ⟨g2, 0, none⟩ = some (.slice (some ⟨gu, 0, none⟩) bs.length xc) := cell_of_row _ _ 0 _ _ _ AF8.out.2.1
  have o1 := frozen_of_row _ _ 0 _ _ AF8.out.1
  have FI := hide AF8.out.done
  go_wp2
  exact bodyPost_ret (results_cell_row rfl _ _ (w.heap.size + 1) 28 _ (0, 0) _ rfl FI.out.1 Try.underlying28 rfl infoFlash1) rfl ⟨_, rfl, FI.out.2.1, FI.out.2.2⟩

set_option maxHeartbeats 800000 in
set_option maxRecDepth 100000 in
theorem tornW_b (v : Value) (bs : List Bk) (kb : Nat) (r : Bk) (w : World) (hs : Sml bs) (ha : RdB w v bs) (hr : bs[kb]? = some r) (h4 : r.2.2.length = 4) :
    Calls Try.prog 63 #[.agg #[v], .iface 145 (.agg #[.int .i64 kb])] w fun e w' => ∃ u, e = .returned (.agg #[u]) ∧ FlashOf w' w.heap.size u (bs.modify kb (fun r => (r.1, r.2.1, List.replicate r.2.2.length (2, ⟨#[]⟩)))) ∧ Below w.heap.size w w' := by
  obtain ⟨vd, vc, rfl⟩ := ha.form
  have hb0 := ((Below.refl w.heap.size w).alloc (Nat.le_refl _) (.cells #[.slice vd bs.length vc] 28)).alloc (by simp) (.cells #[.slice none 0 0] 28)
  have F0 := hide (ha.below hb0)
  have HZ := hide (show ((w.alloc (.cells #[.slice vd bs.length vc] 28)).alloc (.cells #[.slice none 0 0] 28)).heap.size = w.heap.size + 2 by simp)
  have HS := hide hs
  have HR := hide hr
  have aP := noP kb
  have aW := isW kb
  have hkb := (List.getElem?_eq_some_iff.1 hr).1
  obtain ⟨x, y, ls⟩ := r
  simp only at h4
  have H4 := hide h4
  have HE : Hid (bs.modify kb (fun r => (r.1, r.2.1, List.replicate r.2.2.length (2, ⟨#[]⟩))) = bs.modify kb (fun _ => (x, y, tornL 4 ls))) := by
    show _ = _
    rw [modify_eq _ hr, tornL_all h4.symm]
  rw [HE.out]
  have H0 : Hid (bs.modify kb (fun _ => (x, y, tornL 0 ls)) = bs) := by
    show _ = _
    apply List.ext_getElem?
    intro i
    rw [List.getElem?_modify]
    by_cases hi : kb = i
    · subst hi
      rw [hr]
      simp [tornL]
    · simp [hi]
  clear ha hs hb0 hr h4 HE
  go_enter Try.func63, Try.ntmps63
  go_wp2_with fail
  refine (icopy_b _ bs _ HS.out F0.out).mono ?_
  rintro e w1 ⟨x1, rfl, fo, b1⟩
  obtain ⟨xd, xc, rfl⟩ := fo.form
  rw [HZ.out] at fo b1
  have AF2 := hide (after_start fo b1)
  obtain ⟨g2, hg2⟩ : ∃ g2, w1.heap.size = g2 := ⟨_, rfl⟩
  rw [hg2] at AF2
  have n2 : (w1.alloc (.cells #[.slice xd bs.length xc] 28)).cell? ⟨g2, 0, none⟩ = some (.slice xd bs.length xc) := cell_of_row _ _ 0 _ _ _ AF2.out.2.1
  have b3 := (Below.refl (w1.alloc (.cells #[.slice xd bs.length xc] 28)).heap.size (w1.alloc (.cells #[.slice xd bs.length xc] 28))).alloc (Nat.le_refl _) (.cells #[.int .i64 kb] 145)
  have AF3 := hide (AF2.out.below b3)
  obtain ⟨gu, gl, lcap, rfl, c9, -, -, -, -, -⟩ := AF3.out.put (j := 0) HR.out (by show 0 < ls.length; rw [H4.out]; omega)
  simp only at c9
  have C9 := hide c9
  rw [← H0.out] at AF3
  rw [List.length_modify] at AF3
  have n3 : ((w1.alloc (.cells #[.slice (some ⟨gu, 0, none⟩) bs.length xc] 28)).alloc (.cells #[.int .i64 kb] 145)).cell? ⟨g2, 0, none⟩ = some (.slice (some ⟨gu, 0, none⟩) bs.length xc) := cell_of_row _ _ 0 _ _ _ AF3.out.2.1
  have kk0 : (0 : Int) ≤ kb := by omega
  have kk1 : (kb : Int) < bs.length := by omega
  clear b1 fo F0 HZ b3 AF2
  subst hg2
  go_wp2
  clear n2 n3 c9 aP aW
  generalize w1.heap.size = g2 at AF3 ⊢
  generalize (w1.alloc (.cells #[.slice (some ⟨gu, 0, none⟩) bs.length xc] 28)).alloc (.cells #[.int .i64 kb] 145) = w4 at AF3 C9 ⊢
  go_loopw [49] (fun iv wr => ∃ j : Nat, j ≤ 4 ∧ iv = .int .i64 j ∧ Hid (After w wr g2 (.slice (some ⟨gu, 0, none⟩) bs.length xc) (bs.modify kb (fun _ => (x, y, tornL j ls)))) ∧ Hid (wr.cell? ⟨gu, kb * 3 + 2, none⟩ = some (.slice (some ⟨gl, 0, none⟩) ls.length lcap))) (fun iv _ => 4 - (intOf iv).toNat)
  case atStart => exact ⟨0, Nat.zero_le _, rfl, AF3, C9⟩
  case round =>
    obtain ⟨j, hj, rfl, AF, C⟩ := hrel
    have hl4 := H4.out
    clear AF3 C9
    by_cases hlt : (j : Int) < ls.length
    · have j0 : (0 : Int) ≤ j := by omega
      obtain ⟨gu', gl', lcap', e9, c8, ⟨x1, d1⟩, ⟨x2, d2⟩, g1, g2', hput⟩ := AF.out.put (j := j) (modify_at HR.out) (by show j < (tornL j ls).length; rw [tornL_len (by omega)]; omega)
      injection e9 with e9
      injection e9 with e9
      subst e9
      simp only [tornL_len (show j ≤ ls.length by omega)] at c8
      have c8' := C.out
      rw [c8] at c8'
      injection c8' with c8'
      injection c8' with c11 c12 c13
      injection c11 with c11
      injection c11 with c11
      subst c11
      have hput := hput 2 ⟨#[]⟩
      rw [modify_modify] at hput
      simp only [tornL_succ (show j < ls.length by omega)] at hput
      have AF5 := hide hput
      have c9 : (((wr.setCell ⟨gl', j * 2, none⟩ (.int .i64 2)).setCell ⟨gl', j * 2 + 1, none⟩ (.string ⟨#[]⟩)).cell? ⟨gu, kb * 3 + 2, none⟩) = some (.slice (some ⟨gl', 0, none⟩) ls.length lcap) := cell_two C.out (AF.out.apart (modify_at HR.out) C.out)
      have C9 := hide c9
      clear hput c9 c12 c13 hl4
      go_wp2
      go_roundw
      case rel => exact ⟨j + 1, by have := H4.out; omega, by go_num, AF5, C9⟩
      case measure =>
        have := H4.out
        simp [intOf]
        omega
    · have hj4 : j = 4 := by omega
      subst hj4
      have FI := hide AF.out.done
      have n1 : wr.cell? ⟨w.heap.size + 1, 0, none⟩ = some (.slice none 0 0) := cell_of_row _ _ 0 _ _ _ AF.out.1
      have n2 : wr.cell? ⟨g2, 0, none⟩ = some (.slice (some ⟨gu, 0, none⟩) bs.length xc) := cell_of_row _ _ 0 _ _ _ AF.out.2.1
      have o1 := frozen_of_row _ _ 0 _ _ AF.out.1
      clear AF hl4
      go_wp2
      exact bodyPost_ret (results_cell_row rfl _ _ (w.heap.size + 1) 28 _ (0, 0) _ rfl FI.out.1 Try.underlying28 rfl infoFlash1) rfl ⟨_, rfl, FI.out.2.1, FI.out.2.2⟩
end Go.Proofs.Ytcjgjkejhkhknaa
