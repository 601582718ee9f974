/-
  impl's forests: the arena of a forest.
-/
import Derived.Test.YtbjhbbejomfmmasKFil
import Derived.Test.YtbjhbbejomfmmasPk38
import Derived.Deep.RegionHeld3
namespace Go.Proofs.Ytbjhbbejomfmmas
open Go.RowKit
open Words

theorem KidsR.below {W W' : World} {x : Lk} {ks : List Int} (h : KidsR W x ks) (hb : Below W.heap.size W W') : KidsR W' x ks := by
  unfold KidsR at h ⊢
  split at h
  · rename_i hl
    rw [if_pos hl]
    exact h
  · rename_i hl
    rw [if_neg hl]
    refine ⟨h.1, fun k o ho => ?_⟩
    obtain ⟨p, hp, hc⟩ := h.2 k o ho
    refine ⟨p, hp, ?_⟩
    rcases hc with hc | ⟨c, e, hc, hl⟩
    · exact .inl hc
    · have := hb.size
      exact .inr ⟨c, e, (hb.cell (show c < W.heap.size from hl)).trans hc, by omega⟩
theorem KidsR.len {W : World} {x : Lk} {ks : List Int} (h : KidsR W x ks) (h4 : x.Four) : ks.length = 4 := by
  unfold KidsR at h
  split at h
  · rw [h]; exact h4.1
  · exact h.1
/-- The arena under way. -/
def ArSt (w W : World) (z n : Nat) (ss : List Kw) (zs : List Value) : Prop := W.heap[z]? = some (.cells #[.slice none 0 0] 25 (0, 0)) ∧ KFil W (z + 1) (.slice (some ⟨z + 1, 0, none⟩) n n) n ss zs ∧ Below z w W
theorem drop2 {R : List Value} {k n : Nat} (h : R.length = n * 2) (hk : k < n) : ∃ a b, R.drop (k * 2) = a :: b :: R.drop ((k + 1) * 2) := by
  refine ⟨R[k * 2], R[k * 2 + 1], ?_⟩
  rw [List.drop_eq_getElem_cons (by omega), List.drop_eq_getElem_cons (by omega)]
  rw [show k * 2 + 1 + 1 = (k + 1) * 2 by omega]

set_option maxHeartbeats 2000000 in
set_option maxRecDepth 100000 in
theorem iarena (fa : Option Addr) (n c : Nat) (bs : List Nat) (xs : List Lk) (L : List Kn) (w : World) (hn : n ≤ 1048600) (hr : PRow w fa n bs) (hf : FAt w bs xs) (hL : L.length = n) (hk : ∀ (i : Nat) (x : Lk) (y : Kn), xs[i]? = some x → L[i]? = some y → x.leaf = y.leaf ∧ KidsR w x y.kids) :
    Calls Try.prog 110 #[.slice fa n c] w fun e w' => ∃ v, e = .returned v ∧ KOut w L v w' := by
  obtain ⟨i0, hi, hz0, hz1, hz2⟩ := info_parts infoKn
  have R0 := hide (heap_alloc_new w (.cells #[.slice none 0 0] 25))
  have B0 : Hid (Below w.heap.size w (w.alloc (.cells #[.slice none 0 0] 25))) := (Below.refl _ _).alloc (Nat.le_refl _) _
  have HR := hide hr
  have HF := hide hf
  have HL := hide hL
  have HK := hide hk
  clear hr hf hL hk
  go_enter Try.func110, Try.ntmps110
  go_wp2_with (at_make; refine wpList_make_full _ rfl _ _ 23 rfl (w.heap.size + 1) 85 i0 (.agg #[.bool false, .slice none 0 0]) 2 Try.underlying23 hi hz0 hz1 .i64 .i64 _ _ n rfl rfl rfl rfl (by rw [hz2]; omega) (by unfold maxLen; omega) (by simp) ?_)
  intro w1 hown hgrow
  generalize (madeCells #[Value.bool false, Value.slice none 0 0] (n * 2)).toList = R at hown
  have HRL : Hid (R.length = n * 2) := hown.1
  have BG : Below (w.alloc (.cells #[.slice none 0 0] 25)).heap.size (w.alloc (.cells #[.slice none 0 0] 25)) w1 := (Below.refl _ _).grown hgrow (Nat.le_refl _) (fun k hk => by cases hk)
  have S0 : Hid (ArSt w w1 w.heap.size n [] R) := by
    refine ⟨(BG.block w.heap.size (by simp)).trans R0.out, ⟨by simpa [kncells] using hown, (fun _ h => by cases h), List.Pairwise.nil⟩, B0.out.trans (BG.mono B0.out.size)⟩
  obtain ⟨z, hz⟩ : ∃ z, w.heap.size = z := ⟨_, rfl⟩
  have HZ := hide hz
  rw [hz] at S0 ⊢
  clear hz hown hgrow BG R0 B0 hi hz0 hz1 hz2
  go_wp2
  go_loopw [12] (fun iv W => ∃ (k : Nat) (ss : List Kw), k ≤ n ∧ iv = .int .i64 k ∧ Hid (ss.length = k ∧ ss.map ktell = L.take k ∧ ArSt w W z n ss (R.drop (k * 2)))) (fun iv _ => n - (intOf iv).toNat)
  case atStart => exact ⟨0, [], Nat.zero_le _, rfl, rfl, by simp, by simpa using S0.out⟩
  case round =>
    obtain ⟨k, ss, hk, rfl, HS⟩ := hrel
    clear S0
    obtain ⟨hsl, hst, hca⟩ := HS.out
    have HSL := hide hsl
    have HST := hide hst
    have HC := hide hca
    clear HS hsl hst hca
    have HW : Hid (Below w.heap.size w wr) := by rw [hide HZ.out]; exact HC.out.2.2
    by_cases hlt : (k : Int) < n
    · obtain ⟨y, hy⟩ : ∃ y, L[k]? = some y := ⟨_, List.getElem?_eq_getElem (by have := HL.out; omega)⟩
      obtain ⟨x, hx⟩ : ∃ x, xs[k]? = some x := ⟨_, List.getElem?_eq_getElem (by have := HF.out.1; have := HR.out.1; omega)⟩
      obtain ⟨hlf, hkr⟩ := HK.out k x y hx hy
      obtain ⟨b, hb, hat⟩ := (HF.out.below HW.out).get hx
      obtain ⟨fg, rfl, -, hcf⟩ := (HR.out.below HW.out).at hb
      have hbz : b < z := by have := HF.out.2 k b x hb hx; rw [← HZ.out]; exact this.lt
      have k4 := hkr.len hat.2
      have C := hide (ikids b x y.kids wr hat (hkr.below HW.out))
      obtain ⟨k0, k1, k2, k3, hks⟩ := list4 k4
      have HAT := hide hat
      have k00 : (0 : Int) ≤ k := by omega
      obtain ⟨lf, hlfe⟩ : ∃ lf, y.leaf = lf := ⟨_, rfl⟩
      rw [hlfe] at hlf
      have hYE : y = ⟨lf, [k0, k1, k2, k3]⟩ := by cases y; simp only at hks hlfe; rw [hks, hlfe]
      have HY := hide hy
      rw [hYE] at HY
      rw [hks] at C
      have hlc := hat.leaf
      rw [hlf] at hlc
      obtain ⟨oa, ob, hd⟩ := drop2 HRL.out (show k < n by omega)
      have HF1 : Hid (KFil wr (z + 1) (.slice (some ⟨z + 1, 0, none⟩) n n) n ss (oa :: ob :: R.drop ((k + 1) * 2))) := by have := HC.out.2.1; rw [hd] at this; exact this
      have LC := hide hlc
      unfold ptr at hcf C
      clear hks k4 hkr hat hx hb hy hYE hlfe hd hlf hlc
      go_wp2_with fail
      refine C.out.mono ?_
      rintro e w2 ⟨rfl, b2⟩
      have HB2 := hide b2
      simp only [icells, List.map_cons, List.map_nil]
      have B3 : Hid (Below wr.heap.size wr (w2.alloc (.cells #[.int .i64 k0, .int .i64 k1, .int .i64 k2, .int .i64 k3] 106))) := b2.trans (((Below.refl _ _).alloc (Nat.le_refl _) _).mono b2.size)
      have hzw : z + 1 < wr.heap.size := (own_kind HF1.out.1 (z + 1) rfl).2.1
      have hw2 := b2.size
      have AR : Hid (ISl (w2.alloc (.cells #[.int .i64 k0, .int .i64 k1, .int .i64 k2, .int .i64 k3] 106)).drew (.slice (some ⟨w2.heap.size, 0, none⟩) 4 4) [k0, k1, k2, k3]) := by
        refine ⟨_, 4, rfl, (fun e => by cases e), rfl, by simp [maxLen], fun _ => ⟨w2.heap.size, 0, rfl, by show _ < (w2.alloc _).heap.size; simp, fun i t ht => ?_⟩⟩
        have := cell_of_row _ _ (0 + i) _ _ _ (heap_alloc_new w2 (.cells #[.int .i64 k0, .int .i64 k1, .int .i64 k2, .int .i64 k3] 106))
        refine Eq.trans this ?_
        rw [Nat.zero_add]
        match i, ht with
        | 0, ht | 1, ht | 2, ht | 3, ht => simp at ht; subst ht; rfl
      have C2 := hide (icl_ints (.slice (some ⟨w2.heap.size, 0, none⟩) 4 4) [k0, k1, k2, k3] (w2.alloc (.cells #[.int .i64 k0, .int .i64 k1, .int .i64 k2, .int .i64 k3] 106)).drew (by simp) AR.out)
      have lc3 : (w2.alloc (.cells #[.int .i64 k0, .int .i64 k1, .int .i64 k2, .int .i64 k3] 106)).cell? ⟨b, 1, none⟩ = some (.bool lf) := (B3.out.cell (show b < wr.heap.size by omega)).trans LC.out
      clear b2 C
      go_wp2_with fail
      generalize hw3 : w2.alloc (.cells #[.int .i64 k0, .int .i64 k1, .int .i64 k2, .int .i64 k3] 106) = w3 at B3 AR C2 lc3 ⊢
      have LK : Hid (∀ W, Below w3.drew.heap.size w3.drew W → W.cell? ⟨b, 1, none⟩ = some (.bool lf)) := fun W hW => (hW.cell (show b < w3.drew.heap.size by have := B3.out.size; show b < w3.heap.size; omega)).trans lc3
      have LS : Hid (∀ (W : World) (u v : Value), W.cell? ⟨b, 1, none⟩ = some (.bool lf) → ((W.setCell ⟨z + 1, k * 2, none⟩ u).setCell ⟨z + 1, k * 2 + 1, none⟩ v).cell? ⟨b, 1, none⟩ = some (.bool lf)) := fun W u v hW => by
        rw [World.cell?_setCell_other _ _ _ _ (fun e => by injection e; omega), World.cell?_setCell_other _ _ _ _ (fun e => by injection e; omega)]
        exact hW
      clear hw3
      go_region_held3 (fun w' => w'.cell? ⟨b, 1, none⟩ = some (.bool lf)) (first | go_keep | exact LK.out _ BB.out | exact LS.out _ _ _ (LK.out _ BB.out)) ((go_at_call 99; (with_reducible refine Calls.mono C2.out ?_); rintro en w4 ⟨nv, rfl, on, bb⟩; have BB := hide bb; have ON := hide on; (obtain ⟨na, nc, hnv, -⟩ := (Sli.of on).form); subst hnv; clear bb on; have HF4 := hide ((HF1.out.below B3.out).below (Below.drew (Below.refl _ _)) |>.below BB.out); have q0 := HF4.out.cell0 HSL.out; have q1 := HF4.out.cell1 HSL.out; have f0 := HF4.out.fr (k * 2); have f1 := HF4.out.fr (k * 2 + 1)))
      all_goals
        have hz4 : ((w4.setCell ⟨z + 1, k * 2, none⟩ (.bool lf)).setCell ⟨z + 1, k * 2 + 1, none⟩ (.slice na 4 nc)).heap.size = w4.heap.size := by simp [World.setCell]
        have NX : Hid (ArSt w ((w4.setCell ⟨z + 1, k * 2, none⟩ (.bool lf)).setCell ⟨z + 1, k * 2 + 1, none⟩ (.slice na 4 nc)) z n (ss ++ [(lf, .slice na 4 nc, [k0, k1, k2, k3])]) (R.drop ((k + 1) * 2))) := by
          have hb4 : Below wr.heap.size wr w4 := (B3.out.drew).trans (BB.out.mono B3.out.size)
          have hs3 := B3.out.size
          obtain ⟨-, -, cs, q⟩ := own_kind HF4.out.1 (z + 1) rfl
          obtain ⟨-, -, cs2, q2⟩ := own_kind (HF4.out.set (set_even HSL.out oa ob (.bool lf) _)).1 (z + 1) rfl
          refine ⟨row_set_ne (row_set_ne ((hb4.block z (by omega)).trans HC.out.1) (by omega) _ _) (by omega) _ _, ?_, ?_⟩
          · refine KFil.take (W0 := wr) HF1.out.lt (by omega) ((HF4.out.set (set_even HSL.out oa ob (.bool lf) _)).set (set_odd HSL.out _ _ _ _)) ?_ (by simp [maxLen])
            rw [hz4]
            exact (((Sli.of ON.out).dn (show wr.heap.size ≤ w3.drew.heap.size from hs3)).setK q).setK q2
          · exact ((HC.out.2.2.trans (hb4.mono (by omega))).setCell (p := ⟨z + 1, k * 2, none⟩) (by show z ≤ z + 1; omega) _).setCell (p := ⟨z + 1, k * 2 + 1, none⟩) (by show z ≤ z + 1; omega) _
        have NT : Hid ((ss ++ [(lf, Value.slice na 4 nc, [k0, k1, k2, k3])]).map ktell = L.take (k + 1)) := by
          show _ = _
          rw [List.map_append, HST.out, List.take_add_one, HY.out]
          rfl
        have NL : Hid ((ss ++ [(lf, Value.slice na 4 nc, [k0, k1, k2, k3])]).length = k + 1) := by show _ = _; rw [List.length_append, HSL.out]; rfl
        generalize (w4.setCell ⟨z + 1, k * 2, none⟩ (.bool lf)).setCell ⟨z + 1, k * 2 + 1, none⟩ (.slice na 4 nc) = w5 at NX ⊢
        generalize ss ++ [(lf, Value.slice na 4 nc, [k0, k1, k2, k3])] = ss2 at NX NT NL
        clear HC HF1 HF4 ON BB LK LS C2 AR B3 HY HAT LC q0 q1 f0 f1 HSL HST HB2
        go_wp2
        go_roundw
        case rel => exact ⟨k + 1, ss2, by omega, by go_num, NL.out, NT.out, NX.out⟩
        case measure => simp [intOf]; omega
    · have ek : k = n := by omega
      subst ek
      have KO : Hid (KOwn wr (z + 1) (.slice (some ⟨z + 1, 0, none⟩) k k) ss) := by
        have := HC.out.2.1
        rw [List.drop_eq_nil_of_le (by have := HRL.out; omega)] at this
        refine KFil.own ?_
        rw [HSL.out]
        exact this
      have r0 := cell_of_row _ _ 0 _ _ _ HC.out.1
      have f0 := frozen_of_row _ _ 0 _ _ HC.out.1
      have ET : Hid (ss.map ktell = L) := by
        show _ = _
        rw [HST.out, List.take_of_length_le (by have := HL.out; omega)]
      clear HR HF HK
      go_wp2
      refine bodyPost_ret (results_cell_row rfl _ _ z 25 _ (0, 0) _ rfl (row_set HC.out.1 0 (.slice (some ⟨z + 1, 0, none⟩) k k)) Try.underlying25 rfl infoArc) rfl ⟨_, rfl, .slice (some ⟨z + 1, 0, none⟩) k k, ss, rfl, ?_, ET.out, ?_⟩
      · rw [HZ.out]
        exact (KO.out.cellB (show z < z + 1 by omega) _ _).down (by omega)
      · rw [HZ.out]
        exact HC.out.2.2.setCell (p := ⟨z, 0, none⟩) (by show z ≤ z; omega) _
end Go.Proofs.Ytbjhbbejomfmmas
