/-
  impl.OpenBlock.
-/
import Derived.Test.YtcjgjkejhkhknaaIBlank
namespace Go.Proofs.Ytcjgjkejhkhknaa
open Go.RowKit

set_option maxHeartbeats 400000 in
set_option maxRecDepth 100000 in
theorem iopen_any (v : Value) (rs : List Rw) (lo hi : Nat) (w : World) (hl : rs.length ≤ 1048576) (hll : ∀ r ∈ rs, r.2.2.2.length ≤ 1048576) (hh : hi ≤ w.heap.size) (ha : FlashIn w lo hi v rs) :
    Calls Try.prog 15 #[.agg #[v]] w fun e w' => e = .returned (.int .i64 (openF (rs.map tellOf))) ∧ Below w.heap.size w w' := by
  obtain ⟨vd, vcap, rfl, -, -, a3⟩ := frow_form ha.1
  have HLL := hide hll
  have A3 := hide a3
  obtain ⟨n, hn⟩ : ∃ n, rs.length = n := ⟨_, rfl⟩
  have HN := hide hn
  have HB := hide ((Below.refl w.heap.size w).alloc (Nat.le_refl _) (.cells #[.slice vd n vcap] 28))
  have HF2 := hide ha
  rw [hn] at hl HF2 ⊢
  have R0 := hide (heap_alloc_new w (.cells #[.slice vd n vcap] 28))
  have HH := hide hh
  clear ha hll a3 hn
  go_enter Try.func15, Try.ntmps15
  go_wp2
  have HF := hide (HF2.out.below HB.out HH.out)
  clear HF2
  generalize w.alloc (.cells #[.slice vd n vcap] 28) = wA at HB HF R0 ⊢
  have cf : wA.cell? ⟨w.heap.size, 0, none⟩ = some (.slice vd n vcap) := cell_of_row _ _ 0 _ _ _ R0.out
  have HZ := hide (Nat.le_trans HH.out HB.out.size)
  go_loop [7] (fun bv => ∃ b : Nat, bv = .int .i64 b ∧ b ≤ n ∧ Hid (∀ (j : Nat) (c : Bk), j < b → (rs.map tellOf)[j]? = some c → openB c = false)) (fun bv => n - (intOf bv).toNat)
  case atStart => exact ⟨0, rfl, Nat.zero_le _, (show ∀ (j : Nat) (c : Bk), j < 0 → (rs.map tellOf)[j]? = some c → openB c = false from fun j c hj => by omega)⟩
  case round =>
    obtain ⟨b, rfl, r1, HNo⟩ := hrel
    by_cases hlt : (b : Int) < n
    · have hbl : b < rs.length := by have := HN.out; omega
      obtain ⟨r, hr⟩ : ∃ r, rs[b]? = some r := ⟨_, List.getElem?_eq_getElem hbl⟩
      obtain ⟨gv, e, -, -⟩ := A3.out (by omega)
      subst e
      have hrow := HF.out.1
      rw [HN.out] at hrow
      have hrc : (rs.map cellOf)[b]? = some (cellOf r) := by rw [List.getElem?_map, hr]; rfl
      have hrt : (rs.map tellOf)[b]? = some (tellOf r) := by rw [List.getElem?_map, hr]; rfl
      obtain ⟨c1, c2, c3⟩ := kown_cells hrow hrc
      have hlf := (HF.out.2.2.1 r (List.mem_of_getElem? hr)).1
      have hml := HLL.out r (List.mem_of_getElem? hr)
      obtain ⟨x, y, u, ls⟩ := r
      simp only [cellOf] at c1 c2 c3
      simp only at hlf hml
      have C := hide (iopenb_any gv (b * 3) x y u ls lo wA hml c1 c3 hlf)
      have b0 : (0 : Int) ≤ b := by omega
      cases hf : openB (x, y, ls) with
      | false =>
        have NL : Hid (∀ (j : Nat) (c : Bk), j < b + 1 → (rs.map tellOf)[j]? = some c → openB c = false) := by
          intro j c hj hc
          by_cases e : j = b
          · subst e
            rw [hrt] at hc
            cases hc
            exact hf
          · exact HNo.out j c (by omega) hc
        rw [hf] at C
        clear hrow hrc hrt hlf hml hr hbl hf c1 c2 c3
        go_wp2_with fail
        refine C.out.mono ?_
        rintro e w2 ⟨rfl, rfl⟩
        clear C
        go_wp2
        go_round
        case rel => exact ⟨b + 1, by go_num, by omega, NL⟩
        case measure => simp [intOf]; omega
      | true =>
        have PF : Hid (openF (rs.map tellOf) = b) := openF_at hrt hf HNo.out
        rw [hf] at C
        clear hrow hrc hrt hlf hml hr hbl hf c1 c2 c3
        go_wp2_with fail
        refine C.out.mono ?_
        rintro e w2 ⟨rfl, rfl⟩
        clear C
        go_wp2
        go_ret
        exact ⟨by rw [PF.out]; rfl, HB.out⟩
    · have PF : Hid (openF (rs.map tellOf) = -1) := openF_none (fun j c hc => HNo.out j c (by have := (List.getElem?_eq_some_iff.1 hc).1; rw [List.length_map] at this; have := HN.out; omega) hc)
      clear HNo
      go_wp2
      go_ret
      exact ⟨by rw [PF.out]; rfl, HB.out⟩
end Go.Proofs.Ytcjgjkejhkhknaa
