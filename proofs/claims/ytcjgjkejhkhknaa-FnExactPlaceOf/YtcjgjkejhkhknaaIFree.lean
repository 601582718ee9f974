/-
  impl.FreeBlocks.
-/
import Derived.Test.YtcjgjkejhkhknaaIBlank
import Derived.Test.YtcjgjkejhkhknaaPq9
namespace Go.Proofs.Ytcjgjkejhkhknaa
open Go.RowKit

set_option maxHeartbeats 400000 in
set_option maxRecDepth 100000 in
theorem ifree_any (v : Value) (rs : List Rw) (lo hi : Nat) (w : World) (hl : rs.length ≤ 1048576) (hll : ∀ r ∈ rs, r.2.2.2.length ≤ 1048576) (hh : hi ≤ w.heap.size) (ha : FlashIn w lo hi v rs) :
    Calls Try.prog 16 #[.agg #[v]] w fun e w' => ∃ u, e = .returned u ∧ IntsOf w' w.heap.size u (freeL (rs.map tellOf)) ∧ Below w.heap.size w w' := by
  obtain ⟨i0, hi0, hz0, hz1, hz2⟩ := info_parts infoInt
  obtain ⟨vd, vcap, rfl, -, -, a3⟩ := frow_form ha.1
  have HLL := hide hll
  have A3 := hide a3
  obtain ⟨n, hn⟩ : ∃ n, rs.length = n := ⟨_, rfl⟩
  have HN := hide hn
  have HF2 := hide ha
  rw [hn] at hl HF2 ⊢
  have b0 : Below w.heap.size w (w.alloc (.cells #[.slice vd n vcap] 28)) := (Below.refl _ _).alloc (Nat.le_refl _) _
  have S0 : Hid (Frs w (w.alloc (.cells #[.slice vd n vcap] 28)) (.slice vd n vcap) (.slice none 0 0) []) := ⟨b0, heap_alloc_new _ _, World.ownsRow_nil _ _ _ _⟩
  have HH := hide hh
  clear ha hll a3 hn b0
  go_enter Try.func16, Try.ntmps16
  go_wp2
  go_loopw [3, 8] (fun out bv wr => ∃ (b : Nat) (l : List Int), bv = .int .i64 b ∧ b ≤ n ∧ l.length ≤ b ∧ Hid (l = freeTo (rs.map tellOf) b) ∧ Hid (Frs w wr (.slice vd n vcap) out l)) (fun _ bv _ => n - (intOf bv).toNat)
  case atStart => exact ⟨0, [], rfl, Nat.zero_le _, Nat.zero_le _, rfl, S0⟩
  case round =>
    obtain ⟨b, l, rfl, r1, rlen, HLd, HS⟩ := hrel
    clear S0
    have cf : wr.cell? ⟨w.heap.size, 0, none⟩ = some (.slice vd n vcap) := cell_of_row _ _ 0 _ _ _ HS.out.2.1
    by_cases hlt : (b : Int) < n
    · have hbl : b < rs.length := by have := HN.out; omega
      obtain ⟨r, hr⟩ : ∃ r, rs[b]? = some r := ⟨_, List.getElem?_eq_getElem hbl⟩
      obtain ⟨gv, e, -, -⟩ := A3.out (by omega)
      subst e
      have hfo := HF2.out.below HS.out.1 HH.out
      have hrow := hfo.1
      rw [HN.out] at hrow
      have hrc : (rs.map cellOf)[b]? = some (cellOf r) := by rw [List.getElem?_map, hr]; rfl
      have hrt : (rs.map tellOf)[b]? = some (tellOf r) := by rw [List.getElem?_map, hr]; rfl
      obtain ⟨c1, c2, c3⟩ := kown_cells hrow hrc
      have hlf := (hfo.2.2.1 r (List.mem_of_getElem? hr)).1
      have hml := HLL.out r (List.mem_of_getElem? hr)
      obtain ⟨x, y, u, ls⟩ := r
      simp only [cellOf] at c1 c2 c3
      simp only at hlf hml
      have C := hide (ifreeb_any gv (b * 3) x y u ls lo wr hml c1 c3 hlf)
      have b0 : (0 : Int) ≤ b := by omega
      cases hf : freeB (x, y, ls) with
      | false =>
        have NL : Hid (l = freeTo (rs.map tellOf) (b + 1)) := by show _ = _; rw [freeTo_no hrt hf]; exact HLd.out
        rw [hf] at C
        clear hfo hrow hrc hrt hlf hml hr hbl hf c1 c2 c3
        go_wp2_with fail
        refine C.out.mono ?_
        rintro e w2 ⟨rfl, b2⟩
        have S2 := hide (HS.out.below b2)
        clear b2 HS C cf
        go_wp2
        go_roundw
        case rel => exact ⟨b + 1, l, by go_num, by omega, by omega, NL, S2⟩
        case measure => simp [intOf]; omega
      | true =>
        have NL : Hid (l ++ [(b : Int)] = freeTo (rs.map tellOf) (b + 1)) := by show _ = _; rw [freeTo_yes hrt hf, HLd.out]
        rw [hf] at C
        clear hfo hrow hrc hrt hlf hml hr hbl hf c1 c2 c3
        go_wp2_with fail
        refine C.out.mono ?_
        rintro e w2 ⟨rfl, b2⟩
        have S2 := hide (HS.out.below b2)
        clear b2 HS C cf
        go_wp2_with (at_builtin; refine wpList_append_own _ rfl _ _ 24 rfl (w.heap.size + 1) 3 i0 (.int .i64 0) 1 8 Try.underlying24 hi0 hz0 hz1 hz2 rfl (by decide) _ l.length (icells l) rfl (S2.out.2.2.alloc _) ⟨w2.heap.size, 0, none⟩ 1 1 [Value.int .i64 _] rfl rfl (by exact one_cell _ _ _) (one_i64 _) ?g1 ?g2 ?g3 ?_)
        case g1 => unfold maxLen; omega
        case g2 => omega
        case g3 => have := (Array.getElem?_eq_some_iff.1 S2.out.2.1).1; simp; omega
        intro v' w4 hown hgrow _
        have NS := hide (S2.out.snoc hown hgrow)
        have NN : (l ++ [(b : Int)]).length = l.length + 1 := by simp
        generalize l ++ [(b : Int)] = l3 at NL NS NN
        clear hown hgrow S2
        go_wp2
        go_roundw
        case rel => exact ⟨b + 1, l3, by go_num, by omega, by omega, NL, NS⟩
        case measure => simp [intOf]; omega
    · have PF : Hid (freeL (rs.map tellOf) = l) := by
        show _ = _
        unfold freeL
        rw [List.length_map, HLd.out]
        congr 1
        have := HN.out
        omega
      clear HLd
      go_wp2
      go_ret
      refine ⟨_, rfl, ?_, HS.out.1⟩
      rw [PF.out]
      exact own_lower HS.out.2.2 (by omega)
end Go.Proofs.Ytcjgjkejhkhknaa
