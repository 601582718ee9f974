/-
  SNewest; SRead
-/
import Derived.Test.YtcjgjkejhkhknacGreatDoorPk34
import Derived.Test.YtcjgjkejhkhknacGreatDoorPk43
import Derived.Test.YtcjgjkejhkhknacGreatDoorPk7
import Derived.Test.YtcjgjkejhkhknacGreatDoorPk18
import Derived.Deep.RegionHeld3
namespace Go.Proofs.YtcjgjkejhkhknacGreatDoor
open Go.RowKit
open Words Pack
set_option maxHeartbeats 2000000 in
set_option maxRecDepth 100000 in
theorem snewest (ad : Option Addr) (len cap : Nat) (M : List Fnd) (c : Int) (w : World) (hl : len ≤ 1000000000000000000) (h : FdRd w ad len M) :
    Calls Tryz.prog 87 #[.slice ad len cap, .int .i64 c] w fun e w' => e = .returned (.tuple #[fdVal (fdOr (newP M c)), .bool (newP M c).isSome]) ∧ Below w.heap.size w w' := by
  have HN := hide (show M.length = len from h.1)
  have b0 : Below w.heap.size w (w.alloc (.cells #[.int .i64 0, .int .i64 0, .int .i64 0, .int .i64 0, .int .i64 0, .int .i64 0, .int .i64 0, .string ⟨#[]⟩] 127)) := (Below.refl _ _).alloc (Nat.le_refl _) _
  have HZ : Hid (FdAt (w.alloc (.cells #[.int .i64 0, .int .i64 0, .int .i64 0, .int .i64 0, .int .i64 0, .int .i64 0, .int .i64 0, .string ⟨#[]⟩] 127)) w.heap.size fd0) := heap_alloc_new _ _
  have HR := hide (h.below b0)
  have B0 := hide b0
  clear h b0
  go_enter Tryz.func87, Tryz.ntmps87
  go_wp2
  generalize w.alloc (.cells #[.int .i64 0, .int .i64 0, .int .i64 0, .int .i64 0, .int .i64 0, .int .i64 0, .int .i64 0, .string ⟨#[]⟩] 127) = wa at HZ B0 HR ⊢
  go_loopw [6] (fun iv wr => ∃ (z : Int) (k : Nat), iv = .int .i64 z ∧ -1 ≤ z ∧ z < len ∧ Hid (z + 1 = (k : Int)) ∧ Hid (newP M c = newP (M.take k) c) ∧ wr = wa) (fun iv _ => (intOf iv + 1).toNat)
  case atStart => exact ⟨(len : Int) - 1, len, by go_num, by omega, by omega, (by show _ = _; omega), (by show _ = _; rw [List.take_of_length_le (by have := HN.out; omega)]), rfl⟩
  case round =>
    obtain ⟨z, k, rfl, h1, h2, hzk, HP, rfl⟩ := hrel
    by_cases hz : 0 ≤ z
    · obtain ⟨j, rfl⟩ : ∃ j : Nat, z = (j : Int) := ⟨z.toNat, by omega⟩
      have hkj : k = j + 1 := by have := hzk.out; omega
      subst hkj
      have hjl : j < M.length := by have := HN.out; omega
      obtain ⟨x, hx⟩ : ∃ x, M[j]? = some x := ⟨_, List.getElem?_eq_getElem hjl⟩
      obtain ⟨rb, ro, rfl, -, c0, c1, c2, c3, c4, c5, c6, c7, d4⟩ := HR.out.all hx
      have HS := hide (newP_succ hx c)
      have HPn := HP
      rw [HS.out] at HPn
      obtain ⟨xb, xl, pk, pq, px, pp, pc, pt⟩ := x
      simp only at c0 c1 c2 c3 c4 c5 c6 c7 d4 HPn
      clear hx hjl HP HS hzk
      unfold isData at HPn
      simp only at HPn
      by_cases q1 : (pk == 1) = true
      · by_cases q2 : (px == c) = true
        · have HO : Hid (newP M c = some ⟨xb, xl, pk, pq, px, pp, pc, pt⟩) := by show _ = _; rw [HPn.out, q1, q2]; rfl
          obtain ⟨k0, k1, k2, k3, k4, k5, k6, k7⟩ := HZ.out.cells
          have f0 := HZ.out.fr 0
          have f1 := HZ.out.fr 1
          have f2 := HZ.out.fr 2
          have f3 := HZ.out.fr 3
          have f4 := HZ.out.fr 4
          have f5 := HZ.out.fr 5
          have f6 := HZ.out.fr 6
          have f7 := HZ.out.fr 7
          have FD := hide (HZ.out.set ⟨xb, xl, pk, pq, px, pp, pc, pt⟩)
          have BD := hide (below_fd (v0 := .int .i64 xb) (v1 := .int .i64 xl) (v2 := .int .i64 pk) (v3 := .int .i64 pq) (v4 := .int .i64 px) (v5 := .int .i64 pp) (v6 := .int .i64 pc) (v7 := .string pt) B0.out (Nat.le_refl _))
          simp only [fd0] at k0 k1 k2 k3 k4 k5 k6 k7
          clear HPn
          go_wp2
          refine bodyPost_ret (results_fd2 rfl _ _ w.heap.size ⟨xb, xl, pk, pq, px, pp, pc, pt⟩ rfl FD.out) rfl ?_
          rw [HO.out]
          exact ⟨rfl, BD.out⟩
        · have q2 : (px == c) = false := by simpa using q2
          have HO : Hid (newP M c = newP (M.take j) c) := by show _ = _; rw [HPn.out, q1, q2]; rfl
          clear HPn
          go_wp2
          go_roundw
          case rel => exact ⟨(j : Int) - 1, j, by go_num, by omega, by omega, (by show _ = _; omega), HO, trivial⟩
          case measure => simp [intOf]
      · have q1 : (pk == 1) = false := by simpa using q1
        have HO : Hid (newP M c = newP (M.take j) c) := by show _ = _; rw [HPn.out, q1]; rfl
        clear HPn
        go_wp2
        go_roundw
        case rel => exact ⟨(j : Int) - 1, j, by go_num, by omega, by omega, (by show _ = _; omega), HO, trivial⟩
        case measure => simp [intOf]
    · have hk0 : k = 0 := by have := hzk.out; omega
      have HO : Hid (newP M c = none) := by show _ = _; rw [HP.out, hk0]; rfl
      obtain ⟨k0, k1, k2, k3, k4, k5, k6, k7⟩ := HZ.out.cells
      have f0 := HZ.out.fr 0
      have f1 := HZ.out.fr 1
      have f2 := HZ.out.fr 2
      have f3 := HZ.out.fr 3
      have f4 := HZ.out.fr 4
      have f5 := HZ.out.fr 5
      have f6 := HZ.out.fr 6
      have f7 := HZ.out.fr 7
      have FD := hide (HZ.out.set fd0)
      have BD := hide (below_fd (v0 := .int .i64 0) (v1 := .int .i64 0) (v2 := .int .i64 0) (v3 := .int .i64 0) (v4 := .int .i64 0) (v5 := .int .i64 0) (v6 := .int .i64 0) (v7 := .string ⟨#[]⟩) B0.out (Nat.le_refl _))
      simp only [fd0] at k0 k1 k2 k3 k4 k5 k6 k7
      clear HP hzk hk0
      go_wp2
      refine bodyPost_ret (results_fd2 rfl _ _ w.heap.size fd0 rfl FD.out) rfl ?_
      rw [HO.out]
      exact ⟨rfl, BD.out⟩
set_option maxHeartbeats 1000000 in
set_option maxRecDepth 100000 in
theorem stextL (ad : Option Addr) (len cap : Nat) (M : List Fnd) (c : Int) (w : World) (hl : len ≤ 1000000000000000000) (ht : ∀ x ∈ M, x.page.text.size ≤ 1048576) (h : FdRd w ad len M) :
    Calls Tryz.prog 60 #[.slice ad len cap, .int .i64 c] w fun e w' => e = .returned (plainV (textP M c)) ∧ Below w.heap.size w w' := by
  have C := hide (snewest ad len cap M c w hl h)
  cases hn : newP M c with
  | none =>
    have HO : Hid (textP M c = none) := by show _ = _; unfold textP; rw [hn]; rfl
    rw [hn] at C
    unfold fdOr fd0 fdVal at C
    simp only [Option.getD_none, Option.isSome_none] at C
    clear h ht hn
    go_enter Tryz.func60, Tryz.ntmps60
    go_wp2_with fail
    refine C.out.mono ?_
    rintro e w1 ⟨rfl, b1⟩
    have B1 := hide (b1.trans (((Below.refl _ _).alloc (Nat.le_refl _) (.cells #[.int .i64 0, .int .i64 0, .int .i64 0, .int .i64 0, .int .i64 0, .int .i64 0, .int .i64 0, .string ⟨#[]⟩] 127)).mono b1.size))
    clear b1 C
    go_wp2
    refine bodyPost_ret (results_tmp2 rfl _ _ _) rfl ?_
    rw [HO.out]
    exact ⟨rfl, B1.out⟩
  | some x =>
    have HO : Hid (textP M c = unpackL x.page.text.data.toList) := by show _ = _; unfold textP; rw [hn]; rfl
    have hsz := ht x (newP_mem hn).1
    rw [hn] at C
    obtain ⟨xb, xl, pk, pq, px, pp, pc, pt⟩ := x
    unfold fdOr fdVal at C
    simp only [Option.getD_some, Option.isSome_some] at C
    have CU := hide (fun W => sunp_any pt.data.toList W hsz)
    rw [show BA pt.data.toList = pt from by unfold BA; simp] at CU
    simp only at HO
    obtain ⟨p, q, hpq⟩ := plainV_open (unpackL pt.data.toList)
    rw [hpq] at CU
    have HPQ := hide hpq
    clear h ht hn hpq
    go_enter Tryz.func60, Tryz.ntmps60
    go_wp2_with fail
    refine C.out.mono ?_
    rintro e w1 ⟨rfl, b1⟩
    have b2 : Below w1.heap.size w1 (w1.alloc (.cells #[.int .i64 xb, .int .i64 xl, .int .i64 pk, .int .i64 pq, .int .i64 px, .int .i64 pp, .int .i64 pc, .string pt] 127)) := (Below.refl _ _).alloc (Nat.le_refl _) _
    have B1 := hide (b1.trans (b2.mono b1.size))
    have FA : Hid (FdAt (w1.alloc (.cells #[.int .i64 xb, .int .i64 xl, .int .i64 pk, .int .i64 pq, .int .i64 px, .int .i64 pp, .int .i64 pc, .string pt] 127)) w1.heap.size ⟨xb, xl, pk, pq, px, pp, pc, pt⟩) := heap_alloc_new _ _
    obtain ⟨-, -, -, -, -, -, -, k7⟩ := FA.out.cells
    simp only at k7
    clear b1 b2 C FA
    go_wp2_with fail
    refine (CU.out _).mono ?_
    rintro e w2 ⟨rfl, b3⟩
    have B2 := hide (B1.out.trans (b3.mono B1.out.size))
    clear b3 B1
    go_wp2
    refine bodyPost_ret (results_tmp2 rfl _ _ _) rfl ?_
    rw [HO.out, HPQ.out]
    exact ⟨rfl, B2.out⟩
end Go.Proofs.YtcjgjkejhkhknacGreatDoor

namespace Go.Proofs.YtcjgjkejhkhknacGreatDoor
open Go.RowKit
set_option maxHeartbeats 400000 in
set_option maxRecDepth 100000 in
theorem sread_rd (v : Value) (rs : List Rw) (b leaf : Int) (w : World) (hl : rs.length ≤ 1048576) (hll : ∀ r ∈ rs, r.2.2.2.length ≤ 1048576) (ha : FlashRd w v rs) :
    Calls Tryz.prog 61 #[.agg #[v], .int .i64 b, .int .i64 leaf] w fun e w' => e = .returned (.tuple #[.string (readF (rs.map tellOf) b leaf).1, .bool (readF (rs.map tellOf) b leaf).2]) ∧ Below w.heap.size w w' := by
  have h1 := ha
  obtain ⟨vd, vcap, rfl, -⟩ := h1
  have HLL := hide hll
  have HB0 := hide ((Below.refl w.heap.size w).alloc (Nat.le_refl _) (.cells #[.slice vd rs.length vcap] 46))
  have HA := hide (ha.below HB0.out)
  have r0 := heap_alloc_new w (.cells #[.slice vd rs.length vcap] 46)
  have k0 : (w.alloc (.cells #[.slice vd rs.length vcap] 46)).cell? ⟨w.heap.size, 0, none⟩ = some (.slice vd rs.length vcap) := cell_of_row _ _ 0 _ _ _ r0
  have K0 := hide k0
  have hw1 : IntKind.i64.wrap ((rs.length : Int) - 1) = (rs.length : Int) - 1 := by rw [IntKind.wrap_i64]; omega
  clear ha hll r0 k0
  go_enter Tryz.func61, Tryz.ntmps61
  go_wp2_with fail
  refine (sin_any b 0 ((rs.length : Int) - 1) _).mono ?_
  rintro e w2 ⟨rfl, rfl⟩
  generalize w.alloc (.cells #[.slice vd rs.length vcap] 46) = w2 at HB0 HA K0 ⊢
  have k0 := K0.out
  by_cases hb : 0 ≤ b ∧ b ≤ (rs.length : Int) - 1
  · rw [decide_eq_true hb]
    obtain ⟨k, rfl⟩ : ∃ k : Nat, b = k := ⟨b.toNat, by omega⟩
    have hkl : k < rs.length := by omega
    have hr : rs[k]? = some rs[k] := List.getElem?_eq_getElem hkl
    generalize rs[k] = r at hr
    have hmem := List.mem_of_getElem? hr
    have hrl := HLL.out r hmem
    obtain ⟨g, eg, ⟨c1, c2, c3⟩, hlf⟩ := HA.out.at hr
    subst eg
    have HBR : Hid ((rs.map tellOf)[k]? = some (tellOf r)) := by show _ = _; rw [List.getElem?_map, hr]; rfl
    obtain ⟨x, y, u, ls⟩ := r
    simp only at c1 c2 c3
    simp only at hlf hrl
    obtain ⟨ld, capl, rfl, -, l3⟩ := hlf
    have L3 := hide l3
    have kk0 : (0 : Int) ≤ k := by omega
    have kk1 : (k : Int) < rs.length := by omega
    have hw2 : IntKind.i64.wrap ((ls.length : Int) - 1) = (ls.length : Int) - 1 := by rw [IntKind.wrap_i64]; omega
    clear hr hmem l3 c1 c2 hb
    go_wp2_with fail
    refine (sin_any leaf 0 ((ls.length : Int) - 1) _).mono ?_
    rintro e w3 ⟨rfl, rfl⟩
    by_cases hf : 0 ≤ leaf ∧ leaf ≤ (ls.length : Int) - 1
    · rw [decide_eq_true hf]
      obtain ⟨j, rfl⟩ : ∃ j : Nat, leaf = j := ⟨leaf.toNat, by omega⟩
      have hjl : j < ls.length := by omega
      obtain ⟨z, t, ht⟩ : ∃ z t, ls[j]? = some (z, t) := ⟨ls[j].1, ls[j].2, List.getElem?_eq_getElem hjl⟩
      obtain ⟨gl, lo, el, d1, d2⟩ := L3.out j (z, t) ht
      subst el
      simp only at d1 d2
      have RI := hide (read_in (t := (z, t)) HBR.out ht)
      have j0 : (0 : Int) ≤ j := by omega
      have j1 : (j : Int) < ls.length := by omega
      clear ht hf
      by_cases hz : z = 1
      · have HP : Hid (readF (rs.map tellOf) (k : Int) (j : Int) = (t, true)) := RI.out.1 hz
        have e1 : (z != 1) = false := by simp [hz]
        clear hz
        go_wp2
        go_ret2
        exact ⟨by rw [HP.out]; rfl, HB0.out⟩
      · have HP : Hid (readF (rs.map tellOf) (k : Int) (j : Int) = (⟨#[]⟩, false)) := RI.out.2 hz
        have e1 : (z != 1) = true := by simp [hz]
        clear hz
        go_wp2
        go_ret2
        exact ⟨by rw [HP.out]; rfl, HB0.out⟩
    · rw [decide_eq_false hf]
      have HP : Hid (readF (rs.map tellOf) (k : Int) leaf = (⟨#[]⟩, false)) := read_leaf_out HBR.out hf
      clear hf
      go_wp2
      go_ret2
      exact ⟨by rw [HP.out]; rfl, HB0.out⟩
  · rw [decide_eq_false hb]
    have HP : Hid (readF (rs.map tellOf) b leaf = (⟨#[]⟩, false)) := read_out (by rw [List.length_map]; exact hb)
    clear hb
    go_wp2
    go_ret2
    exact ⟨by rw [HP.out]; rfl, HB0.out⟩
end Go.Proofs.YtcjgjkejhkhknacGreatDoor
