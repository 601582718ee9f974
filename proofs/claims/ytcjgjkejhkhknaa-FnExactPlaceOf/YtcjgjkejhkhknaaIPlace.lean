/-
  impl.PlaceOf.
-/
import Derived.Test.YtcjgjkejhkhknaaPq4
import Derived.Test.YtcjgjkejhkhknaaIWear
import Derived.Test.YtcjgjkejhkhknaaIOpen
import Derived.Test.YtcjgjkejhkhknaaPq10
import Derived.Test.YtcjgjkejhkhknaaPq9
namespace Go.Proofs.Ytcjgjkejhkhknaa
open Go.RowKit

theorem worn_field (x y : Int) (w : World) : Sem.run Try.prog (Instr.field 89 (.agg #[.int .i64 x, .int .i64 y]) 0) w = .ok (.int .i64 x) w := by kernel_rfl
theorem hlen_of {w0 w : World} {hp q : Nat} {L : List Wb} (h : HeapOf w0 w hp q L) :
    Calls Try.prog 46 #[.pointer (some ⟨hp, 0, none⟩)] w fun e w' => e = .returned (.int .i64 L.length) ∧ w' = w := by
  obtain ⟨u, D, -, h2, -, h4, -⟩ := h
  rw [← h2]
  exact hlen_any hp q u D w h4

set_option maxHeartbeats 1000000 in
set_option maxRecDepth 100000 in
theorem iplace_any (v : Value) (rs : List Rw) (lo hi : Nat) (w : World) (hl : rs.length ≤ 1048576) (hll : ∀ r ∈ rs, r.2.2.2.length ≤ 1048576) (hh : hi ≤ w.heap.size) (ha : FlashIn w lo hi v rs) :
    Calls Try.prog 12 #[.agg #[v]] w fun e w' => e = .returned (plV (placeF (rs.map tellOf))) ∧ Below w.heap.size w w' := by
  have hf1 := ha.1
  obtain ⟨vd, vcap, rfl, -, -, a3⟩ := frow_form hf1
  clear hf1
  obtain ⟨n, hn⟩ : ∃ n, rs.length = n := ⟨_, rfl⟩
  have b1 := (Below.refl w.heap.size w).alloc (Nat.le_refl _) (.cells #[.slice vd n vcap] 28)
  have HF := hide ha
  have HN := hide hn
  have A3 := hide a3
  have HLL := hide hll
  have HH := hide hh
  have R1 := hide (heap_alloc_new w (.cells #[.slice vd n vcap] 28))
  have C1 : Hid (∀ W, Below w.heap.size w W → Calls Try.prog 44 #[.agg #[.slice vd n vcap]] W fun e w' => e = .returned (.bool (flOk (rs.map tellOf))) ∧ Below W.heap.size W w') := by
    intro W hW
    have := iok_any (.slice vd rs.length vcap) rs lo hi W hl hll (Nat.le_trans hh hW.size) (ha.below hW hh)
    rw [hn] at this
    exact this
  have C2 : Hid (∀ W, Below w.heap.size w W → Calls Try.prog 15 #[.agg #[.slice vd n vcap]] W fun e w' => e = .returned (.int .i64 (openF (rs.map tellOf))) ∧ Below W.heap.size W w') := by
    intro W hW
    have := iopen_any (.slice vd rs.length vcap) rs lo hi W hl hll (Nat.le_trans hh hW.size) (ha.below hW hh)
    rw [hn] at this
    exact this
  have B1 := hide b1
  rw [hn] at hl ⊢
  clear hll ha a3 hh b1
  cases hok : flOk (rs.map tellOf) with
  | false =>
    have PF := hide (place_no hok)
    rw [hok] at C1
    clear hok hn
    go_enter Try.func12, Try.ntmps12
    go_wp2_with fail
    refine (C1.out _ B1.out).mono ?_
    rintro e w2 ⟨rfl, b2⟩
    have B2 := hide (B1.out.trans (b2.mono B1.out.size))
    clear b2
    go_wp2
    go_ret3
    exact ⟨by rw [PF.out]; rfl, B2.out⟩
  | true =>
    have hfl := flOk_len hok
    rw [List.length_map, hn] at hfl
    rw [hok] at C1
    have HOK := hide hok
    clear hok hn
    go_enter Try.func12, Try.ntmps12
    go_wp2_with fail
    refine (C1.out _ B1.out).mono ?_
    rintro e w2 ⟨rfl, b2⟩
    have B2 := hide (B1.out.trans (b2.mono B1.out.size))
    have R2 := hide ((b2.block _ (Array.getElem?_eq_some_iff.1 R1.out).1).trans R1.out)
    have c2 : w2.cell? ⟨w.heap.size, 0, none⟩ = some (.slice vd n vcap) := cell_of_row _ _ 0 _ _ _ R2.out
    clear b2 C1 R1 B1
    go_wp2_with fail
    refine (C2.out _ B2.out).mono ?_
    rintro e w3 ⟨rfl, b3⟩
    have B3 := hide (B2.out.trans (b3.mono B2.out.size))
    have R3 := hide ((b3.block _ (Array.getElem?_eq_some_iff.1 R2.out).1).trans R2.out)
    have c3 : w3.cell? ⟨w.heap.size, 0, none⟩ = some (.slice vd n vcap) := cell_of_row _ _ 0 _ _ _ R3.out
    clear b3 C2 R2 B2 c2
    rcases openF_cases (rs.map tellOf) with ⟨ho, -⟩ | ⟨k, b, ho, hb, -, -⟩
    · rw [ho]
      have HO := hide ho
      have C4 : Hid (Calls Try.prog 45 #[.agg #[.slice vd n vcap]] w3 fun e w' => WearP w3 (wearL (rs.map tellOf) (freeL (rs.map tellOf))) e w') := by
        have := iwear_any (.slice vd rs.length vcap) rs lo hi w3 (by have := HN.out; omega) HLL.out (Nat.le_trans HH.out B3.out.size) (HF.out.below B3.out HH.out)
        rw [HN.out] at this
        exact this
      clear ho
      go_wp2_with fail
      refine C4.out.mono ?_
      rintro e w4 ⟨hp, q, rfl, h4, hlt, b4⟩
      have B4 := hide (B3.out.trans (b4.mono B3.out.size))
      have HP := hide h4
      have C5 := hide (hlen_of h4)
      have hll : (wearL (rs.map tellOf) (freeL (rs.map tellOf))).length ≤ 10 := by
        have := freeTo_len (rs.map tellOf) (rs.map tellOf).length
        simp only [wearL, freeL, List.length_map] at this ⊢
        have := HN.out
        omega
      clear C4 b4 h4 c3 R3
      by_cases h0 : freeL (rs.map tellOf) = []
      · have PF := hide (place_full HOK.out HO.out h0)
        rw [h0] at C5
        clear h0
        go_wp2_with fail
        refine C5.out.mono ?_
        rintro e w5 ⟨rfl, rfl⟩
        clear C5
        go_wp2
        go_ret3
        exact ⟨by rw [PF.out]; rfl, B4.out⟩
      · obtain ⟨r, -, hr⟩ := leastW_some (L := wearL (rs.map tellOf) (freeL (rs.map tellOf))) (fun e => h0 (by simpa [wearL] using e))
        have PF := hide (place_least HOK.out HO.out hr)
        have hpos : 0 < (wearL (rs.map tellOf) (freeL (rs.map tellOf))).length := List.length_pos_of_mem hr.1
        have C6 := hide (least_any hp q _ r w4 w4 HP.out hr)
        generalize wearL (rs.map tellOf) (freeL (rs.map tellOf)) = L at *
        generalize L.length = m at C5 hpos hll
        have hm : ((m : Int) == 0) = false := by simp; omega
        have hm2 : ¬ (m : Int) = 0 := by omega
        have HLT := hide hlt
        have hps : Hid (w3.heap.size ≤ hp ∧ hp ≤ w4.heap.size ∧ hp < q) := by
          obtain ⟨u, D, -, -, -, h9, -⟩ := HP.out
          exact ⟨by omega, Nat.le_of_lt (Array.getElem?_eq_some_iff.1 h9.2.2.2.1).1, h9.1⟩
        clear h0 hr HP hlt
        go_wp2_with fail
        refine C5.out.mono ?_
        rintro e w5 ⟨rfl, rfl⟩
        clear C5
        go_wp2_with fail
        refine C6.out.mono ?_
        rintro e w6 ⟨rfl, k6⟩
        have B6 := hide (B4.out.trans ((k6.down hps.out.2.2 hps.out.2.1).mono (by have := B3.out.size; have := hps.out.1; omega)))
        obtain ⟨x, y⟩ := r
        simp only at PF ⊢
        have FD := worn_field x y
        clear C6 k6
        go_wp2
        go_ret3
        exact ⟨by rw [PF.out]; rfl, B6.out⟩
    · rw [ho]
      have hkl : k < n := by have := (List.getElem?_eq_some_iff.1 hb).1; rw [List.length_map] at this; have := HN.out; omega
      have PF := hide (place_open HOK.out ho hb)
      obtain ⟨r, hr⟩ : ∃ r, rs[k]? = some r := ⟨_, List.getElem?_eq_getElem (by have := HN.out; omega)⟩
      have hbr : b = tellOf r := by rw [List.getElem?_map, hr] at hb; cases hb; rfl
      subst hbr
      obtain ⟨gv, e, -, -⟩ := A3.out (by have := HN.out; omega)
      subst e
      have hfo := HF.out.below B3.out HH.out
      have hrow := hfo.1
      rw [HN.out] at hrow
      obtain ⟨c1, c2, c4⟩ := kown_cells (k := k) (t := cellOf r) hrow (by rw [List.getElem?_map, hr]; rfl)
      have hlf := (hfo.2.2.1 r (List.mem_of_getElem? hr)).1
      have hml := HLL.out r (List.mem_of_getElem? hr)
      obtain ⟨x, y, u, ls⟩ := r
      simp only [cellOf] at c1 c2 c4
      simp only [tellOf] at PF
      simp only at hlf hml
      have C4 := hide (inext_any x y u ls lo w3 hml hlf)
      generalize nextB ls = N at C4 PF
      have k0 : (0 : Int) ≤ k := by omega
      have kn : (k : Int) < n := by omega
      clear ho hb hr hfo hrow hlf hml
      go_wp2_with fail
      refine C4.out.mono ?_
      rintro e w4 ⟨rfl, b4⟩
      have B4 := hide (B3.out.trans (b4.mono B3.out.size))
      clear C4 b4
      go_wp2
      go_ret3
      exact ⟨by rw [PF.out]; rfl, B4.out⟩
end Go.Proofs.Ytcjgjkejhkhknaa
