/-
  SNewest; SSameL
-/
import Derived.Test.YtcjgjkejhkhknabGreatDoorPk33
import Derived.Test.YtcjgjkejhkhknabGreatDoorSUnp
import Derived.Test.YtcjgjkejhkhknabGreatDoorPk40
import Derived.Test.YtcjgjkejhkhknabGreatDoorPk0
set_option maxHeartbeats 2000000
set_option maxRecDepth 100000
namespace Go.Proofs.YtcjgjkejhkhknabGreatDoor
open Go.RowKit
open Words Pack
theorem snewest (ad : Option Addr) (len cap : Nat) (M : List Fnd) (c : Int) (w : World) (hl : len ≤ 1000000000000000000) (h : FdRd w ad len M) :
 Calls Tryz.prog 61 #[.slice ad len cap, .int .i64 c] w fun e w' => e = .returned (.tuple #[fdVal (fdOr (newP M c)), .bool (newP M c).isSome]) ∧ Below w.heap.size w w' := by
 have HN := hide (show M.length = len from h.1)
 have b0 : Below w.heap.size w (w.alloc (.cells #[.int .i64 0, .int .i64 0, .int .i64 0, .int .i64 0, .int .i64 0, .int .i64 0, .int .i64 0, .string ⟨#[]⟩] 77)) := (Below.refl _ _).alloc (Nat.le_refl _) _
 have HZ : Hid (FdAt (w.alloc (.cells #[.int .i64 0, .int .i64 0, .int .i64 0, .int .i64 0, .int .i64 0, .int .i64 0, .int .i64 0, .string ⟨#[]⟩] 77)) w.heap.size fd0) := heap_alloc_new _ _
 have HR := hide (h.below b0)
 have B0 := hide b0
 clear h b0
 go_enter Tryz.func61, Tryz.ntmps61
 go_wp2
 generalize w.alloc (.cells #[.int .i64 0, .int .i64 0, .int .i64 0, .int .i64 0, .int .i64 0, .int .i64 0, .int .i64 0, .string ⟨#[]⟩] 77) = wa at HZ B0 HR ⊢
 go_loopw [6] (fun iv wr => ∃ (z : Int) (k : Nat), iv = .int .i64 z ∧ -1 ≤ z ∧ z < len ∧ Hid (z + 1 = (k : Int)) ∧ Hid (newP M c = newP (M.take k) c) ∧ wr = wa) (fun iv _ => (intOf iv + 1).toNat)
 case atStart => exact ⟨(len : Int) - 1, len, by go_num, by omega, by omega, (by show _ = _; omega), (by show _ = _; rw [List.take_of_length_le (by have := HN.out; omega)]), rfl⟩
 case round =>
  obtain ⟨z, k, rfl, h1, h2, hzk, HP, rfl⟩ := hrel
  by_cases hz : 0 ≤ z
  ·obtain ⟨j, rfl⟩ : ∃ j : Nat, z = (j : Int) := ⟨z.toNat, by omega⟩
   have hkj : k = j + 1 := by have := hzk.out; omega
   subst hkj
   have hjl : j < M.length := by have := HN.out; omega
   obtain ⟨x, hx⟩ : ∃ x, M[j]? = some x := ⟨_, List.getElem?_eq_getElem hjl⟩
   obtain ⟨rb, ro, rfl, -, c0, c1, c2, c3, c4, c5, c6, c7, d4⟩ := HR.out.all hx
   have HS := hide (newP_succ hx c)
   have HPn := HP
   rw [HS.out] at HPn
   obtain ⟨xb, xl, pk, pq, px, pp, pc, pt⟩ := x
   simp only at c0 c1 c2 c3 c4 c5 c6 c7 d4 HPn
   clear hx hjl HP HS hzk
   unfold isData at HPn
   simp only at HPn
   by_cases q1 : (pk == 1) = true
   ·by_cases q2 : (px == c) = true
    ·have HO : Hid (newP M c = some ⟨xb, xl, pk, pq, px, pp, pc, pt⟩) := by show _ = _; rw [HPn.out, q1, q2]; rfl
     obtain ⟨k0, k1, k2, k3, k4, k5, k6, k7⟩ := HZ.out.cells
     have f0 := HZ.out.fr 0
     have f1 := HZ.out.fr 1
     have f2 := HZ.out.fr 2
     have f3 := HZ.out.fr 3
     have f4 := HZ.out.fr 4
     have f5 := HZ.out.fr 5
     have f6 := HZ.out.fr 6
     have f7 := HZ.out.fr 7
     have FD := hide (HZ.out.set ⟨xb, xl, pk, pq, px, pp, pc, pt⟩)
     have BD := hide (below_fd (v0 := .int .i64 xb) (v1 := .int .i64 xl) (v2 := .int .i64 pk) (v3 := .int .i64 pq) (v4 := .int .i64 px) (v5 := .int .i64 pp) (v6 := .int .i64 pc) (v7 := .string pt) B0.out (Nat.le_refl _))
     simp only [fd0] at k0 k1 k2 k3 k4 k5 k6 k7
     clear HPn
     go_wp2
     refine bodyPost_ret (results_fd2 rfl _ _ w.heap.size ⟨xb, xl, pk, pq, px, pp, pc, pt⟩ rfl FD.out) rfl ?_
     rw [HO.out]
     exact ⟨rfl, BD.out⟩
    ·have q2 : (px == c) = false := by simpa using q2
     have HO : Hid (newP M c = newP (M.take j) c) := by show _ = _; rw [HPn.out, q1, q2]; rfl
     clear HPn
     go_wp2
     go_roundw
     case rel => exact ⟨(j : Int) - 1, j, by go_num, by omega, by omega, (by show _ = _; omega), HO, trivial⟩
     case measure => simp [intOf]
   ·have q1 : (pk == 1) = false := by simpa using q1
    have HO : Hid (newP M c = newP (M.take j) c) := by show _ = _; rw [HPn.out, q1]; rfl
    clear HPn
    go_wp2
    go_roundw
    case rel => exact ⟨(j : Int) - 1, j, by go_num, by omega, by omega, (by show _ = _; omega), HO, trivial⟩
    case measure => simp [intOf]
  ·have hk0 : k = 0 := by have := hzk.out; omega
   have HO : Hid (newP M c = none) := by show _ = _; rw [HP.out, hk0]; rfl
   obtain ⟨k0, k1, k2, k3, k4, k5, k6, k7⟩ := HZ.out.cells
   have f0 := HZ.out.fr 0
   have f1 := HZ.out.fr 1
   have f2 := HZ.out.fr 2
   have f3 := HZ.out.fr 3
   have f4 := HZ.out.fr 4
   have f5 := HZ.out.fr 5
   have f6 := HZ.out.fr 6
   have f7 := HZ.out.fr 7
   have FD := hide (HZ.out.set fd0)
   have BD := hide (below_fd (v0 := .int .i64 0) (v1 := .int .i64 0) (v2 := .int .i64 0) (v3 := .int .i64 0) (v4 := .int .i64 0) (v5 := .int .i64 0) (v6 := .int .i64 0) (v7 := .string ⟨#[]⟩) B0.out (Nat.le_refl _))
   simp only [fd0] at k0 k1 k2 k3 k4 k5 k6 k7
   clear HP hzk hk0
   go_wp2
   refine bodyPost_ret (results_fd2 rfl _ _ w.heap.size fd0 rfl FD.out) rfl ?_
   rw [HO.out]
   exact ⟨rfl, BD.out⟩
theorem stextL (ad : Option Addr) (len cap : Nat) (M : List Fnd) (c : Int) (w : World) (hl : len ≤ 1000000000000000000) (ht : ∀ x ∈ M, x.page.text.size ≤ 1048576) (h : FdRd w ad len M) :
 Calls Tryz.prog 38 #[.slice ad len cap, .int .i64 c] w fun e w' => e = .returned (plainV (textP M c)) ∧ Below w.heap.size w w' := by
 have C := hide (snewest ad len cap M c w hl h)
 cases hn : newP M c with
 | none =>
  have HO : Hid (textP M c = none) := by show _ = _; unfold textP; rw [hn]; rfl
  rw [hn] at C
  unfold fdOr fd0 fdVal at C
  simp only [Option.getD_none, Option.isSome_none] at C
  clear h ht hn
  go_enter Tryz.func38, Tryz.ntmps38
  go_wp2_with fail
  refine C.out.mono ?_
  rintro e w1 ⟨rfl, b1⟩
  have B1 := hide (b1.trans (((Below.refl _ _).alloc (Nat.le_refl _) (.cells #[.int .i64 0, .int .i64 0, .int .i64 0, .int .i64 0, .int .i64 0, .int .i64 0, .int .i64 0, .string ⟨#[]⟩] 77)).mono b1.size))
  clear b1 C
  go_wp2
  refine bodyPost_ret (results_tmp2 rfl _ _ _) rfl ?_
  rw [HO.out]
  exact ⟨rfl, B1.out⟩
 | some x =>
  have HO : Hid (textP M c = unpackL x.page.text.data.toList) := by show _ = _; unfold textP; rw [hn]; rfl
  have hsz := ht x (newP_mem hn).1
  rw [hn] at C
  obtain ⟨xb, xl, pk, pq, px, pp, pc, pt⟩ := x
  unfold fdOr fdVal at C
  simp only [Option.getD_some, Option.isSome_some] at C
  have CU := hide (fun W => sunp_any pt.data.toList W hsz)
  rw [show BA pt.data.toList = pt from by unfold BA; simp] at CU
  simp only at HO
  obtain ⟨p, q, hpq⟩ := plainV_open (unpackL pt.data.toList)
  rw [hpq] at CU
  have HPQ := hide hpq
  clear h ht hn hpq
  go_enter Tryz.func38, Tryz.ntmps38
  go_wp2_with fail
  refine C.out.mono ?_
  rintro e w1 ⟨rfl, b1⟩
  have b2 : Below w1.heap.size w1 (w1.alloc (.cells #[.int .i64 xb, .int .i64 xl, .int .i64 pk, .int .i64 pq, .int .i64 px, .int .i64 pp, .int .i64 pc, .string pt] 77)) := (Below.refl _ _).alloc (Nat.le_refl _) _
  have B1 := hide (b1.trans (b2.mono b1.size))
  have FA : Hid (FdAt (w1.alloc (.cells #[.int .i64 xb, .int .i64 xl, .int .i64 pk, .int .i64 pq, .int .i64 px, .int .i64 pp, .int .i64 pc, .string pt] 77)) w1.heap.size ⟨xb, xl, pk, pq, px, pp, pc, pt⟩) := heap_alloc_new _ _
  obtain ⟨-, -, -, -, -, -, -, k7⟩ := FA.out.cells
  simp only at k7
  clear b1 b2 C FA
  go_wp2_with fail
  refine (CU.out _).mono ?_
  rintro e w2 ⟨rfl, b3⟩
  have B2 := hide (B1.out.trans (b3.mono B1.out.size))
  clear b3 B1
  go_wp2
  refine bodyPost_ret (results_tmp2 rfl _ _ _) rfl ?_
  rw [HO.out, HPQ.out]
  exact ⟨rfl, B2.out⟩
end Go.Proofs.YtcjgjkejhkhknabGreatDoor
namespace Go.Proofs.YtcjgjkejhkhknabGreatDoor
open Go.RowKit
open Words Sums Pack
theorem text_same {o : List UInt8} {t : ByteArray} (h : o = t.data.toList) : ((BA o).toList == t.toList) = true := by
 subst h
 rw [Lib.toList_data, Lib.toList_data, BA_list]
 exact beq_self_eq_true _
theorem text_other {o : List UInt8} {t : ByteArray} (h : o ≠ t.data.toList) : ((BA o).toList == t.toList) = false := by
 rw [Lib.toList_data, Lib.toList_data, BA_list, beq_eq_false_iff_ne]
 exact h
theorem ssameL (ad : Option Addr) (len cap : Nat) (M : List Fnd) (la : Option Addr) (ll lc : Nat) (live : List Int) (t : ByteArray) (w : World) (hl : len ≤ 1000000000000000000) (hll : ll ≤ 1000000000000000000) (ht : ∀ x ∈ M, x.page.text.size ≤ 1048576) (h : FdRd w ad len M) (hi : IRow w la ll live) :
 Calls Tryz.prog 18 #[.slice ad len cap, .slice la ll lc, .string t] w fun e w' => e = .returned (.int .i64 (sameP M live t.data.toList)) ∧ Below w.heap.size w w' := by
 have HR := hide h
 have HT := hide ht
 have HI := hide hi
 have HN := hide hi.1
 clear h ht hi
 go_enter Tryz.func18, Tryz.ntmps18
 go_wp2
 go_loopw [7] (fun iv wr => ∃ k : Nat, iv = .int .i64 k ∧ k ≤ ll ∧ Hid (sameP M live t.data.toList = sameP M (live.drop k) t.data.toList) ∧ Hid (Below w.heap.size w wr)) (fun iv _ => ll - (intOf iv).toNat)
 case atStart => exact ⟨0, rfl, Nat.zero_le _, rfl, Below.refl _ _⟩
 case round =>
  rename World => wr
  obtain ⟨k, rfl, hk, HS, B⟩ := hrel
  have hk0 : (0 : Int) ≤ k := by omega
  by_cases hlt : (k : Int) < ll
  ·obtain ⟨c, hc⟩ : ∃ c, live[k]? = some c := ⟨_, List.getElem?_eq_getElem (by have := HN.out; omega)⟩
   obtain ⟨lb, lo, rfl, -, cc⟩ := (HI.out.below B.out).at hc
   have HD := hide (sameP_drop (M := M) t.data.toList hc)
   have C := hide (stextL ad len cap M c wr hl HT.out (HR.out.below B.out))
   clear hc
   cases hx : textP M c with
   | none =>
    rw [hx] at C
    rw [plainV_none] at C
    have NS : Hid (sameP M live t.data.toList = sameP M (live.drop (k + 1)) t.data.toList) := by show _ = _; rw [HS.out, HD.out, hx, if_neg (by simp)]
    clear hx HD HS
    go_wp2_with fail
    refine C.out.mono ?_
    rintro e w1 ⟨rfl, b1⟩
    have B1 := hide (B.out.trans (b1.mono B.out.size))
    clear b1 C
    go_wp2
    go_roundw
    case rel => exact ⟨k + 1, by go_num, by omega, NS, B1⟩
    case measure => simp [intOf]; omega
   | some o =>
    rw [hx] at C
    rw [plainV_some] at C
    by_cases ho : o = t.data.toList
    ·have NS : Hid (sameP M live t.data.toList = c) := by show _ = _; rw [HS.out, HD.out, hx, if_pos (by rw [ho])]
     have he := text_same ho
     clear hx HD HS ho
     go_wp2_with fail
     refine C.out.mono ?_
     rintro e w1 ⟨rfl, b1⟩
     have B1 := hide (B.out.trans (b1.mono B.out.size))
     have cc' := (b1.cell (World.block_lt_of_cell? wr _ cc)).trans cc
     clear b1 C cc
     go_wp2
     go_ret
     rw [NS.out]
     exact ⟨rfl, B1.out⟩
    ·have NS : Hid (sameP M live t.data.toList = sameP M (live.drop (k + 1)) t.data.toList) := by show _ = _; rw [HS.out, HD.out, hx, if_neg (by simpa using ho)]
     have he := text_other ho
     clear hx HD HS ho
     go_wp2_with fail
     refine C.out.mono ?_
     rintro e w1 ⟨rfl, b1⟩
     have B1 := hide (B.out.trans (b1.mono B.out.size))
     clear b1 C
     go_wp2
     go_roundw
     case rel => exact ⟨k + 1, by go_num, by omega, NS, B1⟩
     case measure => simp [intOf]; omega
  ·have NS : Hid (sameP M live t.data.toList = 0) := by show _ = _; rw [HS.out, List.drop_eq_nil_of_le (by have := HN.out; omega)]; rfl
   clear HS
   go_wp2
   go_ret
   rw [NS.out]
   exact ⟨rfl, B.out⟩
theorem sfind (v : Value) (rs : List Rw) (la : Option Addr) (ll lc : Nat) (live : List Int) (t : ByteArray) (w : World) (hl : rs.length ≤ 1048576) (hll : ∀ r ∈ rs, r.2.2.2.length ≤ 1048576) (htx : TxB rs) (ha : FlashRd w v rs) (hlv : ll ≤ 1000000000000000000) (hi : IRow w la ll live) :
 Calls Tryz.prog 6 #[.agg #[v], .slice la ll lc, .string t] w fun e w' => e = .returned (.int .i64 (sameP (scanF (rs.map tellOf)) live t.data.toList)) ∧ Below w.heap.size w w' := by
 have b0 : Below w.heap.size w (w.alloc (.cells #[v] 30)) := (Below.refl _ _).alloc (Nat.le_refl _) _
 have k0 : (w.alloc (.cells #[v] 30)).cell? ⟨w.heap.size, 0, none⟩ = some v := cell_of_row _ _ 0 _ _ _ (heap_alloc_new w (.cells #[v] 30))
 have C := hide (sscanO v rs _ hl hll htx (ha.below b0))
 have HI := hide (hi.below b0)
 have B0 := hide b0
 obtain ⟨M, hM⟩ : ∃ M, scanF (rs.map tellOf) = M := ⟨_, rfl⟩
 have HT : Hid (∀ x ∈ M, x.page.text.size ≤ 1048576) := by rw [← hM]; exact scan_text
 unfold ScOut at C
 rw [hM] at C ⊢
 clear hl hll htx ha hi b0 hM
 go_enter Tryz.func6, Tryz.ntmps6
 go_wp2_with fail
 refine C.out.mono ?_
 rintro e w1 ⟨ad, cap, rfl, h1, h2, h3⟩
 have CS := hide (ssameL ad M.length cap M la ll lc live t w1 (by omega) hlv HT.out h1 (HI.out.below h3))
 have B1 := hide (B0.out.trans (h3.mono B0.out.size))
 clear C h1 h2 h3 HI B0
 go_wp2_with fail
 refine CS.out.mono ?_
 rintro e w2 ⟨rfl, b2⟩
 have B2 := hide (B1.out.trans (b2.mono B1.out.size))
 clear b2 CS
 go_wp2
 go_ret
 exact ⟨rfl, B2.out⟩
end Go.Proofs.YtcjgjkejhkhknabGreatDoor
