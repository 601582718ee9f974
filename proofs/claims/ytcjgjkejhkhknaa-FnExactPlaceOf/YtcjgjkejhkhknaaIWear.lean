/-
  impl.freeByWear.
-/
import Derived.Test.YtcjgjkejhkhknaaHp
import Derived.Test.YtcjgjkejhkhknaaIFree
namespace Go.Proofs.Ytcjgjkejhkhknaa
open Go.RowKit

theorem HeapOf.empty {w : World} {hp q : Nat} (h1 : hp < q) (h2 : q ≤ w.heap.size) (h : w.heap[hp]? = some (.cells #[.slice none 0 0] 134 (0, 0))) : HeapOf w w hp q [] :=
  ⟨.slice none 0 0, [], Heapy.nil, rfl, fun _ => Iff.rfl, ⟨h1, h2, Nat.zero_le _, h, World.ownsRow_nil _ _ _ _⟩, KeptH.refl _ _ _⟩
theorem HeapOf.kept {w wr : World} {hp q : Nat} {L : List Wb} (h : HeapOf w wr hp q L) : KeptH w wr hp q ∧ hp < q := by
  obtain ⟨u, D, -, -, -, h1, h2⟩ := h
  exact ⟨h2, h1.1⟩
theorem HeapOf.anew {w wr : World} {hp q : Nat} {L : List Wb} (h : HeapOf w wr hp q L) : HeapOf wr wr hp q L := by
  obtain ⟨u, D, h1, h2, h3, h4, -⟩ := h
  exact ⟨u, D, h1, h2, h3, h4, KeptH.refl _ _ _⟩
def WearP (w : World) (L : List Wb) (e : Ending) (w' : World) : Prop := ∃ hp q, e = .returned (.pointer (some ⟨hp, 0, none⟩)) ∧ HeapOf w' w' hp q L ∧ w.heap.size < hp ∧ Below w.heap.size w w'
theorem wearL_snoc (bs : List Bk) (l : List Int) (k : Nat) (x : Int) (h : l[k]? = some x) : wearL bs (l.take (k + 1)) = wearL bs (l.take k) ++ [(x, wearOf bs x)] := by
  obtain ⟨h1, rfl⟩ := List.getElem?_eq_some_iff.1 h
  rw [List.take_succ_eq_append_getElem h1]
  unfold wearL
  rw [List.map_append]
  rfl

set_option maxHeartbeats 1000000 in
set_option maxRecDepth 100000 in
theorem iwear_any (v : Value) (rs : List Rw) (lo hi : Nat) (w : World) (hl : rs.length ≤ 1048575) (hll : ∀ r ∈ rs, r.2.2.2.length ≤ 1048576) (hh : hi ≤ w.heap.size) (ha : FlashIn w lo hi v rs) :
    Calls Try.prog 45 #[.agg #[v]] w fun e w' => WearP w (wearL (rs.map tellOf) (freeL (rs.map tellOf))) e w' := by
  obtain ⟨vd, vcap, rfl, -, -, a3⟩ := frow_form ha.1
  obtain ⟨n, hn⟩ : ∃ n, rs.length = n := ⟨_, rfl⟩
  have b1 := (Below.refl w.heap.size w).alloc (Nat.le_refl _) (.cells #[.slice vd n vcap] 28)
  have b2 := b1.alloc (by simp) (.cells #[.slice none 0 0] 134)
  have HF2 := hide ha
  rw [hn] at HF2
  have C := hide (ifree_any (.slice vd rs.length vcap) rs lo hi _ (by omega) hll (Nat.le_trans hh b2.size) (ha.below b2 hh))
  have A3 := hide a3
  have HH := hide hh
  have HN := hide hn
  have HFT := hide (fun (x : Int) (hx : x ∈ freeL (rs.map tellOf)) => freeTo_mem hx)
  have hfl : (freeL (rs.map tellOf)).length ≤ n := by have := freeTo_len (rs.map tellOf) (rs.map tellOf).length; rw [List.length_map, hn] at this; unfold freeL; rw [List.length_map, hn]; exact this
  rw [hn] at C hl ⊢
  obtain ⟨F, hF⟩ : ∃ F, freeL (rs.map tellOf) = F := ⟨_, rfl⟩
  rw [hF] at C hfl HFT ⊢
  have R1 : Hid (((w.alloc (.cells #[.slice vd n vcap] 28)).alloc (.cells #[.slice none 0 0] 134)).heap[w.heap.size]? = some (.cells #[.slice vd n vcap] 28 (0, 0))) := (Below.heap_alloc _ _ _ (by simp)).trans (heap_alloc_new w _)
  have r2 := heap_alloc_new (w.alloc (.cells #[.slice vd n vcap] 28)) (.cells #[.slice none 0 0] 134)
  have z2 : ((w.alloc (.cells #[.slice vd n vcap] 28)).alloc (.cells #[.slice none 0 0] 134)).heap.size = w.heap.size + 2 := by simp
  rw [show (w.alloc (.cells #[.slice vd n vcap] 28)).heap.size = w.heap.size + 1 by simp] at r2
  have R2 := hide r2
  have Z2 := hide z2
  have B2 := hide b2
  clear a3 ha hll hn hh b1 b2 hF r2 z2
  go_enter Try.func45, Try.ntmps45
  go_wp2_with fail
  generalize (w.alloc (.cells #[.slice vd n vcap] 28)).alloc (.cells #[.slice none 0 0] 134) = wA at C R1 R2 Z2 B2 ⊢
  refine C.out.mono ?_
  rintro e w2 ⟨u, rfl, ho, b3⟩
  have s2 := b3.size
  have z2 := Z2.out
  have S1 := hide ((b3.block _ (by omega)).trans R1.out)
  have H0 := hide (HeapOf.empty (q := w2.heap.size) (by omega) (Nat.le_refl _) ((b3.block (w.heap.size + 1) (by omega)).trans R2.out))
  have B3 := hide (B2.out.trans (b3.mono (by omega)))
  obtain ⟨ud, ucap, rfl, -, u2, u3⟩ := frow_form ho
  unfold maxLen at u2
  have U3 := hide u3
  have HO := hide ho
  obtain ⟨m, hm⟩ : ∃ m, F.length = m := ⟨_, rfl⟩
  have HM := hide hm
  rw [hm] at hfl U3 ⊢
  have hz : w.heap.size + 2 ≤ w2.heap.size := by omega
  clear C R1 R2 B2 b3 s2 z2 u3 ho hm
  go_wp2
  go_loopw [9] (fun iv wr => ∃ k : Nat, iv = .int .i64 k ∧ k ≤ m ∧ Hid (HeapOf w2 wr (w.heap.size + 1) w2.heap.size (wearL (rs.map tellOf) (F.take k)))) (fun iv _ => m - (intOf iv).toNat)
  case atStart => exact ⟨0, rfl, Nat.zero_le _, by simpa [wearL] using H0⟩
  case round =>
    obtain ⟨k, rfl, hk, HR⟩ := hrel
    clear H0
    have hkp := HR.out.kept.1
    have hbl : Below (w.heap.size + 1) w2 wr := hkp.down (by omega) (by omega)
    have BW := hide (B3.out.trans (hbl.mono (by omega)))
    by_cases hlt : (k : Int) < m
    · obtain ⟨x, hx⟩ : ∃ x, F[k]? = some x := ⟨_, List.getElem?_eq_getElem (by have := HM.out; omega)⟩
      obtain ⟨j, e, hj, b, hb, -⟩ := HFT.out x (List.mem_of_getElem? hx)
      have hjl : j < rs.length := by rw [List.length_map] at hj; exact hj
      obtain ⟨r, hr⟩ : ∃ r, rs[j]? = some r := ⟨_, List.getElem?_eq_getElem hjl⟩
      have hwr : wearOf (rs.map tellOf) x = r.2.1 := by unfold wearOf; rw [e, Int.toNat_natCast, List.getElem?_map, hr]; rfl
      have NX := hide (wearL_snoc (rs.map tellOf) F k x hx)
      rw [hwr] at NX
      subst e
      obtain ⟨gu, e, g1, g2⟩ := U3.out (by omega)
      subst e
      obtain ⟨gv, e, -, -⟩ := A3.out (by omega)
      subst e
      -- the cells that are read
      have ci : w2.cell? ⟨gu, k, none⟩ = some (.int .i64 (j : Int)) := by
        have h1 := HO.out.cells (g := gu) rfl k (.int .i64 (j : Int)) (by rw [icells]; rw [List.getElem?_map, hx]; rfl)
        rw [addr_at] at h1
        exact h1
      have ci2 : wr.cell? ⟨gu, k, none⟩ = some (.int .i64 (j : Int)) := by
        rw [← ci]
        exact World.cell?_of_block (hkp.2.2.2.2 gu g2 ⟨g2, by have := Z2.out; omega⟩)
      have cf : wr.cell? ⟨w.heap.size, 0, none⟩ = some (.slice (some ⟨gv, 0, none⟩) n vcap) := cell_of_row _ _ 0 _ _ _ ((hbl.block _ (by omega)).trans S1.out)
      have hfo := (HF2.out.below BW.out HH.out).1
      rw [HN.out] at hfo
      obtain ⟨-, cw, -⟩ := kown_cells (k := j) (t := cellOf r) hfo (by rw [List.getElem?_map, hr]; rfl)
      have cw2 : wr.cell? ⟨gv, j * 3 + 1, none⟩ = some (.int .i64 r.2.1) := cw
      have jn : (j : Int) < n := by have := HN.out; omega
      have j0 : (0 : Int) ≤ j := by omega
      have k0 : (0 : Int) ≤ k := by omega
      have C2 := hide (heapPush_any (w.heap.size + 1) w2.heap.size _ ((j : Int), r.2.1) w2 wr HR.out (by simp [wearL]; have := HM.out; omega))
      simp only at C2
      rw [← NX.out] at C2
      generalize r.2.1 = y at cw2 C2
      clear hkp hbl hx hb hj hjl hr hwr NX ci hfo cw HR
      go_wp2_with fail
      refine C2.out.mono ?_
      rintro e w4 ⟨rfl, h4⟩
      have H4 := hide h4
      clear C2 h4 ci2 cf cw2
      go_wp2
      go_roundw
      case rel => exact ⟨k + 1, by go_num, by omega, H4⟩
      case measure => simp [intOf]; omega
    · have PF : Hid (HeapOf wr wr (w.heap.size + 1) w2.heap.size (wearL (rs.map tellOf) F)) := by
        have := HR.out.anew
        rw [List.take_of_length_le (by have := HM.out; omega)] at this
        exact this
      clear HR hkp hbl
      go_wp2
      go_ret
      exact ⟨_, _, rfl, PF.out, by omega, BW.out⟩
end Go.Proofs.Ytcjgjkejhkhknaa
