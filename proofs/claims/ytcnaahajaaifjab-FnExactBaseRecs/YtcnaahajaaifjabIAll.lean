/-
  impl.AllAt.
-/
import Derived.Test.YtcnaahajaaifjabITree
namespace Go.Proofs.Ytcnaahajaaifjab
open Go.RowKit
open Words

theorem allT_at (L : List Kn) (r : Int) {k : Nat} (h : k < 16) : (allT L r)[k]? = some (getT L r (k : Int)) := by
  rw [allT, List.getElem?_map, List.getElem?_range h]
  rfl
theorem allT_no {L : List Kn} {r : Int} (h : (arB L && rootB L r) = false) : allT L r = List.replicate 16 0 := by
  refine List.eq_replicate_iff.2 ⟨allT_len L r, fun n hn => ?_⟩
  obtain ⟨s, -, rfl⟩ := List.mem_map.1 hn
  exact if_neg (by rw [askB, h]; simp)

set_option maxHeartbeats 1000000 in
set_option maxRecDepth 100000 in
theorem iallAt : AllC 53 := by
  intro ad len cap rs r w hl h
  obtain ⟨i0, hi, hz0, hz1, hz2⟩ := info_parts infoInt
  have BX := hide (box_at w (.slice ad len cap))
  have bx := BX.out
  have B0 : Hid (Below w.heap.size w (w.alloc (.cells #[.slice ad len cap] 33))) := (Below.refl _ _).alloc (Nat.le_refl _) _
  have H := hide (h.below B0.out)
  clear h
  obtain ⟨L, hL⟩ : ∃ L, rs.map ktell = L := ⟨_, rfl⟩
  have HL := hide hL
  rw [hL]
  clear hL
  go_enter Try.func53, Try.ntmps53
  go_wp2_with (at_make; refine wpList_make_full _ rfl _ _ 47 rfl (w.heap.size + 1) 3 i0 (.int .i64 0) 1 Try.underlying47 hi hz0 hz1 .i64 .i64 _ _ 16 rfl rfl rfl rfl (by rw [hz2]; omega) (by unfold maxLen; omega) (by simp) ?_)
  intro w1 hown hgrow
  rw [toList_madeCells_one, icells_rep] at hown
  clear hi hz0 hz1 hz2
  have BG : Hid (Below (w.alloc (.cells #[.slice ad len cap] 33)).heap.size (w.alloc (.cells #[.slice ad len cap] 33)) w1) := (Below.refl _ _).grown hgrow (Nat.le_refl _) (fun k hk => by cases hk)
  have HSZ : Hid ((w.alloc (.cells #[.slice ad len cap] 33)).heap.size = w.heap.size + 1) := by show _ = _; simp
  have HO := hide hown
  have bx1 := (BG.out.cell (show w.heap.size < (w.alloc (.cells #[.slice ad len cap] 33)).heap.size by simp)).trans BX.out
  have H1 := hide (H.out.below BG.out)
  have B1 : Hid (Below w.heap.size w w1) := B0.out.trans (BG.out.mono B0.out.size)
  clear hown hgrow bx BX BG B0 H HSZ
  obtain ⟨z, hz⟩ : ∃ z, w.heap.size = z := ⟨_, rfl⟩
  have HZ := hide hz
  rw [hz] at HO bx1 ⊢
  clear hz
  go_wp2_with fail
  refine (iatree ad len cap rs r w1 hl H1.out).mono ?_
  rw [HL.out]
  rintro e w2 ⟨b2, h2⟩
  have HO2 := hide (own_below HO.out b2)
  have B2 : Hid (Below w.heap.size w w2) := B1.out.trans (b2.mono B1.out.size)
  clear b2 HO B1 H1 bx1
  rcases h2 with ⟨hA, hR, b, bs, rfl, hT⟩ | ⟨hA, rfl⟩
  · have HA := hide hA
    have HR := hide hR
    have S0 : Hid (∃ xs : List Int, xs = (allT L r).take 0 ++ (List.replicate 16 0).drop 0 ∧ w2.ownsRow (z + 1) 3 1 (.slice (some ⟨z + 1, 0, none⟩) 16 16) 16 (icells xs) ∧ TreeAt w2 b bs L r ∧ Below w.heap.size w w2) := ⟨_, rfl, HO2.out, hT, B2.out⟩
    clear hA hR hT HO2
    unfold ptr
    go_wp2
    go_loopw [17] (fun iv W => ∃ k : Nat, k ≤ 16 ∧ iv = .int .i64 k ∧ Hid (∃ xs : List Int, xs = (allT L r).take k ++ (List.replicate 16 0).drop k ∧ W.ownsRow (z + 1) 3 1 (.slice (some ⟨z + 1, 0, none⟩) 16 16) 16 (icells xs) ∧ TreeAt W b bs L r ∧ Below w.heap.size w W)) (fun iv _ => 16 - (intOf iv).toNat)
    case atStart => exact ⟨0, by omega, rfl, S0⟩
    case round =>
      obtain ⟨k, hk, rfl, HS⟩ := hrel
      clear S0
      by_cases hlt : (k : Int) < 16
      · have hk16 : k < 16 := by omega
        obtain ⟨xs, hxs, ho, ht, hb⟩ := HS.out
        have HT := hide ht
        have k0 : (0 : Int) ≤ k := by omega
        have hx0 : xs[k]? = some 0 := by rw [hxs, part_at (by rw [allT_len]; exact hk16), List.getElem?_replicate, if_pos hk16]
        have oc : wr.cell? ⟨z + 1, k, none⟩ = some (.int .i64 0) := by
          rw [← addr_at]
          exact ho.cells (g := z + 1) rfl k _ (icells_get hx0)
        have of : wr.frozen? ⟨z + 1, k, none⟩ = false := by
          obtain ⟨-, -, cs, q⟩ := own_kind ho (z + 1) rfl
          exact frozen_of_row _ _ k _ _ q
        have HN : Hid (∃ xs : List Int, xs = (allT L r).take (k + 1) ++ (List.replicate 16 0).drop (k + 1) ∧ (wr.setCell ⟨z + 1, k, none⟩ (.int .i64 (getP L r k))).ownsRow (z + 1) 3 1 (.slice (some ⟨z + 1, 0, none⟩) 16 16) 16 (icells xs) ∧ TreeAt (wr.setCell ⟨z + 1, k, none⟩ (.int .i64 (getP L r k))) b bs L r ∧ Below w.heap.size w (wr.setCell ⟨z + 1, k, none⟩ (.int .i64 (getP L r k)))) := by
          have hg : getT L r (k : Int) = getP L r k := if_pos (by rw [askB, HA.out, HR.out, decide_eq_true (show (0 : Int) ≤ k by omega), decide_eq_true (show (k : Int) ≤ 15 by omega)]; rfl)
          refine ⟨xs.set k (getP L r k), ?_, by rw [← icells_set]; exact fown_set ho rfl k _, ?_, hb.setCell (p := ⟨z + 1, k, none⟩) (by rw [HZ.out]; show z ≤ z + 1; omega) _⟩
          · rw [hxs]
            exact part_set (by rw [allT_at L r hk16, hg]) (by rw [allT_len]; rfl)
          · obtain ⟨-, -, cs, q⟩ := own_kind ho (z + 1) rfl
            have hne : ∀ {c : Nat} {x : Lk}, LkAt wr c x → c ≠ z + 1 := by
              intro c x hc e
              have := hc.1
              rw [e, q] at this
              injection this with this
              injection this with _ this
              simp at this
            refine ⟨⟨ht.1.1, fun i c x h1 h2 => (ht.1.2 i c x h1 h2).other (hne (ht.1.2 i c x h1 h2)) _⟩, ?_⟩
            rcases ht.2 with ⟨e, q⟩ | q
            · exact .inl ⟨e, q.other (hne q) _⟩
            · exact .inr q
        clear hxs ho ht hb hx0 HS
        go_wp2_with fail
        refine (inum b bs L r k wr (by omega) HA.out HT.out).mono ?_
        rintro e w3 ⟨rfl, rfl⟩
        go_wp2
        go_roundw
        case rel => exact ⟨k + 1, by omega, by go_num, HN⟩
        case measure => simp [intOf]; omega
      · have e16 : k = 16 := by omega
        subst e16
        obtain ⟨xs, hxs, ho, ht, hb⟩ := HS.out
        have e : xs = allT L r := by
          rw [hxs, List.take_of_length_le (by rw [allT_len]; omega)]
          simp
        subst e
        have HO := hide ho
        have HB := hide hb
        clear ho hb ht hxs HS
        go_wp2
        go_ret
        exact ⟨_, rfl, by rw [allT_len, HZ.out]; exact own_lower HO.out (by omega), HB.out⟩
  · have E : Hid (allT L r = List.replicate 16 0) := allT_no hA
    clear hA
    go_wp2
    go_ret
    exact ⟨_, rfl, by rw [allT_len, E.out, HZ.out]; exact own_lower HO2.out (by omega), B2.out⟩
end Go.Proofs.Ytcnaahajaaifjab
