/-
  spec.Torment.
-/
import Derived.Test.YtcjgjkejhkhknaaPq88
import Derived.Test.YtcjgjkejhkhknaaITorn
import Derived.Deep.RegionWith
namespace Go.Proofs.Ytcjgjkejhkhknaa
open Go.RowKit

/-- The answer's cell at r, the flash's cell at g, and the flash from block B on. -/
def Aft (w w' : World) (B r g : Nat) (v : Value) (bs : List Bk) : Prop :=
  w'.heap[r]? = some (.cells #[.slice none 0 0] 28 (0, 0)) ∧ w'.heap[g]? = some (.cells #[v] 28 (0, 0)) ∧ FlashOf w' B v bs ∧ Below w.heap.size w w' ∧ w.heap.size ≤ r ∧ r < B
theorem Aft.below {w w' w'' : World} {B r g : Nat} {v : Value} {bs : List Bk} (h : Aft w w' B r g v bs) (hb : Below w'.heap.size w' w'') : Aft w w'' B r g v bs := by
  obtain ⟨h1, h2, h3, h4, h5, h6⟩ := h
  exact ⟨(hb.block _ (Array.getElem?_eq_some_iff.1 h1).1).trans h1, (hb.block _ (Array.getElem?_eq_some_iff.1 h2).1).trans h2, h3.below hb, h4.trans (hb.mono h4.size), h5, h6⟩
theorem Aft.put {w w' : World} {B r g : Nat} {ud : Option Addr} {n ucap : Nat} {bs : List Bk} {k j : Nat} {b : Bk} (h : Aft w w' B r g (.slice ud n ucap) bs) (hk : bs[k]? = some b) (hj : j < b.2.2.length) :
    ∃ gu gl lcap, ud = some ⟨gu, 0, none⟩ ∧ w'.cell? ⟨gu, k * 3 + 2, none⟩ = some (.slice (some ⟨gl, 0, none⟩) b.2.2.length lcap) ∧ (∃ x, w'.cell? ⟨gl, j * 2, none⟩ = some x) ∧ (∃ x, w'.cell? ⟨gl, j * 2 + 1, none⟩ = some x) ∧
      w'.frozen? ⟨gl, j * 2, none⟩ = false ∧ w'.frozen? ⟨gl, j * 2 + 1, none⟩ = false ∧ B ≤ gl ∧ gu ≠ gl ∧
      ∀ (z : Int) (t : ByteArray), Aft w ((w'.setCell ⟨gl, j * 2, none⟩ (.int .i64 z)).setCell ⟨gl, j * 2 + 1, none⟩ (.string t)) B r g (.slice ud n ucap) (bs.modify k (fun r => (r.1, r.2.1, r.2.2.set j (z, t)))) := by
  obtain ⟨h1, h2, h3, h4, h5, h6⟩ := h
  obtain ⟨gu, gl, lcap, rfl, c, x1, x2, f1, f2, hB, hB2, hne, hput⟩ := h3.put hk hj
  have hap : gu ≠ gl := by
    obtain ⟨ss, rfl, hs⟩ := h3
    rw [List.getElem?_map] at hk
    obtain ⟨q, hq, rfl⟩ := Option.map_eq_some_iff.1 hk
    obtain ⟨ud', ucap', e, -, -, u3⟩ := frow_form hs.1
    injection e with e1 e2 e3
    subst e1 e2 e3
    obtain ⟨-, -, c3⟩ := kown_cells (k := k) (t := cellOf q) hs.1 (by rw [List.getElem?_map, hq]; rfl)
    rw [c] at c3
    injection c3 with c3
    have hl := hs.2.2.1 q (List.mem_of_getElem? hq)
    intro e
    refine leaf_not_block hs.1 hl.1 gu rfl ?_
    show (cellOf q).2.2.ownBlock = some gu
    rw [← c3, e]
    rfl
  refine ⟨gu, gl, lcap, rfl, c, x1, x2, f1, f2, hB, hap, fun z t => ⟨row_set_ne (row_set_ne h1 (hne _ _ h1) _ _) (hne _ _ h1) _ _, row_set_ne (row_set_ne h2 (hne _ _ h2) _ _) (hne _ _ h2) _ _, hput z t, ?_, h5, h6⟩⟩
  exact (h4.setCell (p := ⟨gl, j * 2, none⟩) (by show _ ≤ gl; omega) _).setCell (p := ⟨gl, j * 2 + 1, none⟩) (by show _ ≤ gl; omega) _
theorem Aft.done {w w' : World} {B r g : Nat} {v : Value} {bs : List Bk} (h : Aft w w' B r g v bs) : (w'.setCell ⟨r, 0, none⟩ v).heap[r]? = some (.cells #[v] 28 (0, 0)) ∧ FlashOf (w'.setCell ⟨r, 0, none⟩ v) w.heap.size v bs ∧ Below w.heap.size w (w'.setCell ⟨r, 0, none⟩ v) := by
  obtain ⟨h1, h2, h3, h4, h5, h6⟩ := h
  exact ⟨row_set h1 0 v, (h3.cell h6 0 v).down (by omega), h4.setCell (p := ⟨r, 0, none⟩) h5 v⟩
theorem Aft.cell {w w' : World} {B r g : Nat} {v : Value} {bs : List Bk} (h : Aft w w' B r g v bs) : w'.cell? ⟨r, 0, none⟩ = some (.slice none 0 0) ∧ w'.cell? ⟨g, 0, none⟩ = some v ∧ w'.frozen? ⟨r, 0, none⟩ = false :=
  ⟨cell_of_row _ _ 0 _ _ _ h.1, cell_of_row _ _ 0 _ _ _ h.2.1, frozen_of_row _ _ 0 _ _ h.1⟩
/-- A step in a block of its own. -/
def StC (g : Nat) (k b lf : Int) (t : ByteArray) (w : World) : Prop := w.heap[g]? = some (.cells #[.int .i64 k, .int .i64 b, .int .i64 lf, .string t] 49 (0, 0))
theorem StC.below {g : Nat} {k b lf : Int} {t : ByteArray} {w w' : World} (h : StC g k b lf t w) (hb : Below w.heap.size w w') : StC g k b lf t w' := (hb.block _ (Array.getElem?_eq_some_iff.1 h).1).trans h
theorem StC.two {g gl i j : Nat} {k b lf : Int} {t : ByteArray} {w : World} {u v : Value} (h : StC g k b lf t w) (hne : g ≠ gl) : StC g k b lf t ((w.setCell ⟨gl, i, none⟩ u).setCell ⟨gl, j, none⟩ v) := row_set_ne (row_set_ne h hne _ _) hne _ _
theorem StC.cells {g : Nat} {k b lf : Int} {t : ByteArray} {w : World} (h : StC g k b lf t w) : w.cell? ⟨g, 0, none⟩ = some (.int .i64 k) ∧ w.cell? ⟨g, 1, none⟩ = some (.int .i64 b) ∧ w.cell? ⟨g, 2, none⟩ = some (.int .i64 lf) ∧ w.cell? ⟨g, 3, none⟩ = some (.string t) :=
  ⟨cell_of_row _ _ 0 _ _ _ h, cell_of_row _ _ 1 _ _ _ h, cell_of_row _ _ 2 _ _ _ h, cell_of_row _ _ 3 _ _ _ h⟩

set_option maxHeartbeats 1600000 in
set_option maxRecDepth 100000 in
theorem sto_b (v : Value) (bs : List Bk) (s : Stp) (w : World) (hs : Sml bs) (ha : RdB w v bs) :
    Calls Try.prog 60 #[.agg #[v], stV s] w fun e w' => ∃ u, e = .returned (.tuple #[.agg #[u], .bool (tormF bs s).2]) ∧ FlashOf w' w.heap.size u (tormF bs s).1 ∧ Below w.heap.size w w' := by
  obtain ⟨vd, vc, rfl⟩ := ha.form
  have CD := hide (fun W (h : RdB W (.slice vd bs.length vc) bs) => sdo_b (.slice vd bs.length vc) bs s W hs h)
  have HPL := hide (fun h => do_place (bs := bs) (s := s) h)
  obtain ⟨k, b, lf, t⟩ := s
  unfold stV at CD ⊢
  simp only at CD HPL ⊢
  have T0 := hide (Tk.three w #[.slice vd bs.length vc] #[.int .i64 k, .int .i64 b, .int .i64 lf, .string t] #[.slice none 0 0] 28 49 28)
  have F0 := hide (ha.below T0.out.1)
  have HS := hide hs
  obtain ⟨R1, R2, hR⟩ : ∃ R1 R2, doF bs (k, b, lf, t) = (R1, R2) := ⟨_, _, rfl⟩
  have HR := hide hR
  rw [hR] at CD HPL
  simp only at CD HPL
  clear ha hs hR
  go_enter Try.func60, Try.ntmps60
  go_wp2_with fail
  generalize ((w.alloc (.cells #[.slice vd bs.length vc] 28)).alloc (.cells #[.int .i64 k, .int .i64 b, .int .i64 lf, .string t] 49)).alloc (.cells #[.slice none 0 0] 28) = w0 at T0 F0 ⊢
  refine (CD.out w0 F0.out).mono ?_
  rintro e w2 ⟨u, rfl, fo, b2⟩
  obtain ⟨ud, uc, rfl⟩ := fo.form
  have b3 := b2.alloc b2.size (.cells #[.slice ud R1.length uc] 28)
  have T3 := hide (T0.out.below b3)
  have F3 := hide (F0.out.below b3)
  have k3 : (w2.alloc (.cells #[.slice ud R1.length uc] 28)).cell? ⟨w.heap.size, 0, none⟩ = some (.slice vd bs.length vc) := T3.out.at 2 0 rfl rfl
  clear b2 b3 fo T0 F0 CD
  go_wp2_with fail
  generalize w2.alloc (.cells #[.slice ud R1.length uc] 28) = w3 at T3 F3 k3 ⊢
  refine (scopy_b _ bs w3 HS.out F3.out).mono ?_
  rintro e w4 ⟨x, rfl, fo, b4⟩
  obtain ⟨xd, xc, rfl⟩ := fo.form
  obtain ⟨g, hg⟩ : ∃ g, w4.heap.size = g := ⟨_, rfl⟩
  have z3 : w.heap.size + 1 + 1 + 1 ≤ w3.heap.size := T3.out.hi 0 rfl
  have b5 := b4.alloc b4.size (.cells #[.slice xd bs.length xc] 28)
  have T5 := T3.out.below b5
  have q5 := heap_alloc_new w4 (.cells #[.slice xd bs.length xc] 28)
  rw [hg] at q5
  have AF5 : Hid (Aft w (w4.alloc (.cells #[.slice xd bs.length xc] 28)) w3.heap.size (w.heap.size + 1 + 1) g (.slice xd bs.length xc) bs) :=
    ⟨T5.get 0 rfl, q5, fo.below ((Below.refl _ _).alloc (Nat.le_refl _) _), T5.1, by omega, by omega⟩
  have SC5 : Hid (StC (w.heap.size + 1) k b lf t (w4.alloc (.cells #[.slice xd bs.length xc] 28))) := T5.get 1 rfl
  have hB : w.heap.size + 1 < w3.heap.size := by omega
  generalize w3.heap.size = B at AF5 hB
  clear b4 b5 fo T5 q5 k3 T3 F3 z3
  cases R2 with
  | false =>
    have HT : Hid (tormF bs (k, b, lf, t) = (bs, false)) := by show _ = _; simp [tormF, HR.out]
    obtain ⟨n1, n2, f1⟩ := AF5.out.cell
    have FI := hide AF5.out.done
    clear AF5 SC5 HPL
    subst hg
    go_wp2
    exact bodyPost_ret (results_flash2 rfl _ _ (w.heap.size + 1 + 1) _ rfl FI.out.1) rfl ⟨_, by rw [HT.out]; rfl, by rw [HT.out]; exact FI.out.2.1, FI.out.2.2⟩
  | true =>
    have HT : Hid (tormF bs (k, b, lf, t) = (tornF bs (k, b, lf, t), true)) := by show _ = _; simp [tormF, HR.out]
    obtain ⟨kb, ⟨x, y, ls⟩, e1, h2, h3, h4, h5, -, -⟩ := HPL.out rfl
    simp only at h3
    subst e1
    have HRR := hide h2
    have H4 := hide h3
    have hkb := (List.getElem?_eq_some_iff.1 h2).1
    have kk0 : (0 : Int) ≤ kb := by omega
    have kk1 : (kb : Int) < bs.length := by omega
    clear h2 h3 HPL
    by_cases h1 : k = 1
    · subst h1
      obtain ⟨j, e1, hj, -, -, hz⟩ := h5 rfl
      subst e1
      obtain ⟨h, hh⟩ : ∃ h, t.size / 2 = h := ⟨_, rfl⟩
      have sH := fun W => half_run t h W hh
      have hzz := halfT_size t
      have e2 : (t.size : Int).tdiv 2 = (h : Int) := by rw [Int.tdiv_eq_ediv_of_nonneg (by omega)]; omega
      have e3 : (t.size : Int) / 2 = (h : Int) := by omega
      have HTT : Hid (tornF bs (1, (kb : Int), (j : Int), t) = bs.modify kb (fun r => (r.1, r.2.1, r.2.2.set j (2, halfT t)))) := by show _ = _; simp [tornF]
      obtain ⟨q, hq⟩ : ∃ q, halfT t = q := ⟨_, rfl⟩
      rw [hq] at sH hzz HTT
      obtain ⟨gu, gl, lcap, rfl, c9, ⟨x1, d1⟩, ⟨x2, d2⟩, f1, f2, hBg, hap, hput⟩ := AF5.out.put (j := j) HRR.out (by show j < ls.length; rw [H4.out]; exact hj)
      simp only at c9
      rw [H4.out] at c9
      obtain ⟨n1, n2, f0⟩ := AF5.out.cell
      obtain ⟨s1, s2, s3, s4⟩ := SC5.out.cells
      have AF8 := hide ((hput 2 q).below (Below.refl _ _).drew)
      have jj0 : (0 : Int) ≤ j := by omega
      have jj1 : (j : Int) < 4 := by omega
      have ht9 : t.size ≤ 1048576 := by omega
      clear hput AF5 SC5 h4 h5 hq hh hzz
      subst hg
      go_wp2
      generalize w4.alloc (.cells #[.slice (some ⟨gu, 0, none⟩) bs.length xc] 28) = w5 at AF8 n1 n2 f0 s1 s2 s3 s4 c9 d1 d2 f1 f2 ⊢
      go_region
      clear n1 n2 f0 s1 s2 s3 s4 c9 d1 d2 f1 f2 sH
      generalize w4.heap.size = g at AF8 ⊢
      generalize ((w5.setCell ⟨gl, j * 2, none⟩ (.int .i64 2)).setCell ⟨gl, j * 2 + 1, none⟩ (.string q)).drew = w8 at AF8 ⊢
      obtain ⟨n1, n2, f1⟩ := AF8.out.cell
      have FI := hide AF8.out.done
      go_wp2
      exact bodyPost_ret (results_flash2 rfl _ _ (w.heap.size + 1 + 1) _ rfl FI.out.1) rfl ⟨_, by rw [HT.out]; rfl, by rw [HT.out, HTT.out]; exact FI.out.2.1, FI.out.2.2⟩
    · have e1 : (k == 1) = false := by simpa using h1
      have HTT : Hid (tornF bs (k, (kb : Int), lf, t) = bs.modify kb (fun _ => (x, y, tornL 4 ls))) := by
        show _ = _
        simp only [tornF, if_neg h1, Int.toNat_natCast]
        rw [modify_eq _ HRR.out, tornL_all H4.out.symm]
      have H0 : Hid (bs.modify kb (fun _ => (x, y, tornL 0 ls)) = bs) := by
        show _ = _
        apply List.ext_getElem?
        intro i
        rw [List.getElem?_modify]
        by_cases hi : kb = i
        · subst hi
          rw [HRR.out]
          simp [tornL]
        · simp [hi]
      have AF6 := AF5
      rw [← H0.out] at AF6
      rw [List.length_modify] at AF6
      obtain ⟨n1, n2, f0⟩ := AF5.out.cell
      obtain ⟨s1, s2, s3, s4⟩ := SC5.out.cells
      clear h1 h4 h5 AF5 H0
      subst hg
      go_wp2
      clear n1 n2 f0 s1 s2 s3 s4
      generalize w4.alloc (.cells #[.slice xd bs.length xc] 28) = w5 at AF6 SC5 ⊢
      generalize w4.heap.size = g at AF6 ⊢
      go_loopw [9] (fun iv wr => ∃ j : Nat, j ≤ 4 ∧ iv = .int .i64 j ∧ Hid (Aft w wr B (w.heap.size + 1 + 1) g (.slice xd bs.length xc) (bs.modify kb (fun _ => (x, y, tornL j ls)))) ∧ Hid (StC (w.heap.size + 1) k kb lf t wr)) (fun iv _ => 4 - (intOf iv).toNat)
      case atStart => exact ⟨0, Nat.zero_le _, rfl, AF6, SC5⟩
      case round =>
        obtain ⟨j, hj, rfl, AF, SC⟩ := hrel
        clear AF6 SC5
        obtain ⟨n1, n2, f0⟩ := AF.out.cell
        obtain ⟨s1, s2, s3, s4⟩ := SC.out.cells
        have hl4 := H4.out
        by_cases hlt : j < 4
        · have j0 : (0 : Int) ≤ j := by omega
          have j4 : (j : Int) < 4 := by omega
          obtain ⟨gu, gl, lcap, rfl, c8, ⟨x1, d1⟩, ⟨x2, d2⟩, g1, g2', hBg, hap, hput⟩ := AF.out.put (j := j) (modify_at HRR.out) (by show j < (tornL j ls).length; rw [tornL_len (by omega)]; omega)
          simp only [tornL_len (show j ≤ ls.length by omega)] at c8
          rw [hl4] at c8
          have hput := hput 2 ⟨#[]⟩
          rw [modify_modify] at hput
          simp only [tornL_succ (show j < ls.length by omega)] at hput
          have AF5 := hide hput
          have SC5 := hide (SC.out.two (i := j * 2) (j := j * 2 + 1) (u := .int .i64 2) (v := .string ⟨#[]⟩) (show w.heap.size + 1 ≠ gl by omega))
          clear hput hl4
          go_wp2
          go_roundw
          case rel => exact ⟨j + 1, by omega, by go_num, AF5, SC5⟩
          case measure => simp [intOf]; omega
        · have hj4 : j = 4 := by omega
          subst hj4
          obtain ⟨gu, gl, lcap, rfl, c8, -, -, -, -, -, -, -⟩ := AF.out.put (j := 0) (modify_at HRR.out) (by show 0 < (tornL 4 ls).length; rw [tornL_len (by omega)]; omega)
          simp only [tornL_len (show 4 ≤ ls.length by omega)] at c8
          rw [hl4] at c8
          have FI := hide AF.out.done
          clear AF SC hl4 hlt
          go_wp2
          exact bodyPost_ret (results_flash2 rfl _ _ (w.heap.size + 1 + 1) _ rfl FI.out.1) rfl ⟨_, by rw [HT.out]; rfl, by rw [HT.out, HTT.out]; exact FI.out.2.1, FI.out.2.2⟩
end Go.Proofs.Ytcjgjkejhkhknaa
