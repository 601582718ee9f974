/-
  impl.partsOf.
-/
import Derived.Test.YtogfdhfmamabiaaIBegin
import Derived.Test.YtogfdhfmamabiaaPk25
namespace Go.Proofs.Ytogfdhfmamabiaa
open Go.RowKit
open Words

theorem FdRd.at8 {w : World} {a : Option Addr} {len : Nat} {ls : List Fnd} (h : FdRd w a len ls) {k : Nat} {t : Fnd} (hk : ls[k]? = some t) :
    ∃ b off, a = some ⟨b, off, none⟩ ∧ w.cell? ⟨b, off + k * 8, none⟩ = some (.int .i64 t.block) ∧ w.cell? ⟨b, off + k * 8 + 1, none⟩ = some (.int .i64 t.leaf) ∧
      w.cell? ⟨b, off + k * 8 + 2, none⟩ = some (.int .i64 t.page.kind) ∧ w.cell? ⟨b, off + k * 8 + 3, none⟩ = some (.int .i64 t.page.seq) ∧ w.cell? ⟨b, off + k * 8 + 4, none⟩ = some (.int .i64 t.page.tx) ∧
      w.cell? ⟨b, off + k * 8 + 5, none⟩ = some (.int .i64 t.page.part) ∧ w.cell? ⟨b, off + k * 8 + 6, none⟩ = some (.int .i64 t.page.count) ∧ w.cell? ⟨b, off + k * 8 + 7, none⟩ = some (.string t.page.text) := by
  obtain ⟨b, off, e, -, c0, c1, c2, c3, c4, c5, c6, c7⟩ := h.at hk
  exact ⟨b, off, e, c0, c1, c2, c3, c4, c5, c6, c7⟩

set_option maxHeartbeats 2000000 in
set_option maxRecDepth 100000 in
theorem ipartsOf (ad : Option Addr) (len cap : Nat) (M : List Fnd) (w : World) (hl : len ≤ 1048576) (h : FdRd w ad len M) :
    Calls Try.prog 23 #[.slice ad len cap] w fun e w' => ∃ G, e = .returned (.map (some w.heap.size)) ∧ PM w.heap.size w' w.heap.size G ∧ OutA (M.map Fnd.page) (M.map Fnd.page) G ∧ Below w.heap.size w w' := by
  have HR := hide h
  have HN := hide (show M.length = len from h.1)
  clear h
  obtain ⟨ps, hps⟩ : ∃ ps, M.map Fnd.page = ps := ⟨_, rfl⟩
  rw [hps]
  have HP := hide hps
  have HPL : Hid (ps.length = len) := by show _ = _; rw [← hps, List.length_map]; exact HN.out
  clear hps
  have hmm := @run_makeMap Try.prog
  have P0 := hide (PM.start w)
  have B0 := hide ((Below.refl w.heap.size w).alloc (Nat.le_refl _) (.map #[] 0))
  have O0 : Hid (OutB (ps.take 0) []) := OutB.nil
  go_enter Try.func23, Try.ntmps23
  go_wp2
  clear hmm
  generalize w.alloc (.map #[] 0) = wa at P0 B0 ⊢
  go_loopw [11] (fun iv wr => ∃ (k : Nat) (G : Gm), k ≤ len ∧ iv = .int .i64 k ∧ Hid (PM w.heap.size wr w.heap.size G) ∧ Hid (OutB (ps.take k) G) ∧ Hid (Below w.heap.size w wr)) (fun iv _ => len - (intOf iv).toNat)
  case atStart => exact ⟨0, [], Nat.zero_le _, rfl, P0, O0, B0⟩
  case round =>
    obtain ⟨k, G, hk, rfl, P, O, BW⟩ := hrel
    clear P0 O0 B0
    by_cases hlt : (k : Int) < len
    · have hkl : k < M.length := by have := HN.out; omega
      obtain ⟨x, hx⟩ : ∃ x, M[k]? = some x := ⟨_, List.getElem?_eq_getElem hkl⟩
      have hpm : ps[k]? = some x.page := by rw [← HP.out, List.getElem?_map, hx]; rfl
      obtain ⟨rb, ro, rfl, c0, c1, c2, c3, c4, c5, c6, c7⟩ := (HR.out.below BW.out).at8 hx
      have HX := hide hpm
      clear hx hpm hkl
      obtain ⟨xb, xl, pg⟩ := x
      simp only at c0 c1 c2 c3 c4 c5 c6 c7 HX
      have k0 : (0 : Int) ≤ k := by omega
      have bA := (Below.refl wr.heap.size wr).alloc (Nat.le_refl _) (.cells #[.int .i64 xb, .int .i64 xl, .int .i64 pg.kind, .int .i64 pg.seq, .int .i64 pg.tx, .int .i64 pg.part, .int .i64 pg.count, .string pg.text] 42)
      have P1 := hide (P.out.below bA)
      have B1 := hide (BW.out.trans (bA.mono BW.out.size))
      have CB := hide (ibegin w.heap.size w.heap.size G (ps.take k) pg _ P1.out O.out)
      unfold pgVal at CB
      clear bA P BW O
      go_wp2_with fail
      generalize wr.alloc (.cells #[.int .i64 xb, .int .i64 xl, .int .i64 pg.kind, .int .i64 pg.seq, .int .i64 pg.tx, .int .i64 pg.part, .int .i64 pg.count, .string pg.text] 42) = wb at P1 B1 CB ⊢
      refine CB.out.mono ?_
      rintro e w1 ⟨rfl, G', p1, o1, b1⟩
      have P2 := hide p1
      have B2 := hide (B1.out.trans b1)
      have O2 := hide o1
      rw [show ps.take k ++ [pg] = ps.take (k + 1) by rw [List.take_add_one, HX.out]; rfl] at O2
      clear p1 o1 b1 CB P1 B1 c0 c1 c2 c3 c4 c5 c6 c7
      go_wp2
      go_roundw
      case rel => exact ⟨k + 1, G', by omega, by go_num, P2, O2, B2⟩
      case measure => simp [intOf]; omega
    · have hke : ps.take k = ps := List.take_of_length_le (by have := HPL.out; omega)
      rw [hke] at O
      have A0 : Hid (OutA ps (ps.take 0) G) := O.out.outA
      clear hke O
      go_wp2
      go_loopw [22] (fun iv wr => ∃ (k : Nat) (G : Gm), k ≤ len ∧ iv = .int .i64 k ∧ Hid (PM w.heap.size wr w.heap.size G) ∧ Hid (OutA ps (ps.take k) G) ∧ Hid (Below w.heap.size w wr)) (fun iv _ => len - (intOf iv).toNat)
      case atStart => exact ⟨0, G, Nat.zero_le _, rfl, P, A0, BW⟩
      case round =>
        obtain ⟨j, H, hj, rfl, Q, O, BJ⟩ := hrel
        clear P A0 BW
        by_cases hlt2 : (j : Int) < len
        · have hjl : j < M.length := by have := HN.out; omega
          obtain ⟨x, hx⟩ : ∃ x, M[j]? = some x := ⟨_, List.getElem?_eq_getElem hjl⟩
          have hpm : ps[j]? = some x.page := by rw [← HP.out, List.getElem?_map, hx]; rfl
          obtain ⟨rb, ro, rfl, c0, c1, c2, c3, c4, c5, c6, c7⟩ := (HR.out.below BJ.out).at8 hx
          have HX := hide hpm
          clear hx hpm hjl
          obtain ⟨xb, xl, pg⟩ := x
          simp only at c0 c1 c2 c3 c4 c5 c6 c7 HX
          have j0 : (0 : Int) ≤ j := by omega
          have bA := (Below.refl wr.heap.size wr).alloc (Nat.le_refl _) (.cells #[.int .i64 xb, .int .i64 xl, .int .i64 pg.kind, .int .i64 pg.seq, .int .i64 pg.tx, .int .i64 pg.part, .int .i64 pg.count, .string pg.text] 42)
          have P1 := hide (Q.out.below bA)
          have B1 := hide (BJ.out.trans (bA.mono BJ.out.size))
          have CB := hide (iadd w.heap.size w.heap.size H ps (ps.take j) pg _ P1.out O.out)
          unfold pgVal at CB
          clear bA Q BJ O
          go_wp2_with fail
          generalize wr.alloc (.cells #[.int .i64 xb, .int .i64 xl, .int .i64 pg.kind, .int .i64 pg.seq, .int .i64 pg.tx, .int .i64 pg.part, .int .i64 pg.count, .string pg.text] 42) = wb at P1 B1 CB ⊢
          refine CB.out.mono ?_
          rintro e w1 ⟨rfl, G', p1, o1, b1⟩
          have P2 := hide p1
          have B2 := hide (B1.out.trans b1)
          have O2 := hide o1
          rw [show ps.take j ++ [pg] = ps.take (j + 1) by rw [List.take_add_one, HX.out]; rfl] at O2
          clear p1 o1 b1 CB P1 B1 c0 c1 c2 c3 c4 c5 c6 c7
          go_wp2
          go_roundw
          case rel => exact ⟨j + 1, G', by omega, by go_num, P2, O2, B2⟩
          case measure => simp [intOf]; omega
        · have hje : ps.take j = ps := List.take_of_length_le (by have := HPL.out; omega)
          rw [hje] at O
          clear hje
          go_wp2
          go_ret
          exact ⟨rfl, H, Q.out, O.out, BJ.out⟩
end Go.Proofs.Ytogfdhfmamabiaa
