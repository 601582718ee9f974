/-
  The walk of the program's noting of places.
-/
import Derived.Test.YtaolinlginloaabPKey
import Derived.Test.YtaolinlginloaabKept2
namespace Go.Proofs.Ytaolinlginloaab
open Go.RowKit

theorem note_prep {w5 w6 : World} {base b k : Nat} {s q : List UInt8} {No : Nat → Prop} (hq : q.length = 4) (h : PMapAt w5 base b k s No)
    (e : w6 = (w5.alloc (.cells #[Value.int .u8 0, Value.int .u8 0, Value.int .u8 0, Value.int .u8 0] 65)).setCells w5.heap.size 0 (bcells q)) :
    BytesAt w6 w5.heap.size q ∧ PMapAt w6 base b k s No ∧ Below w5.heap.size w5 w6 ∧ w6.heap.size = w5.heap.size + 1 := by
  have hv := bytes_made w5 [0, 0, 0, 0] #[Value.int .u8 0, Value.int .u8 0, Value.int .u8 0, Value.int .u8 0] 65 rfl
  have h1 := hv.store q (by rw [hq]; rfl)
  have h2 : Below w5.heap.size w5 w6 := by
    rw [e]
    exact below_cells (Nat.le_refl _) _ _ _ ((Below.refl _ _).alloc (Nat.le_refl _) _)
  rw [← e] at h1
  exact ⟨h1, pmap_kept h (grown_old h2 none) (fun j hj => by cases hj), h2, by rw [e, setCells_size]; simp⟩

theorem note_entry {w w5 w6 : World} {base b k : Nat} {s : List UInt8} {No : Nat → Prop} (hk : k < 64) (h4 : k + 4 ≤ s.length) (h : PMapAt w5 base b k s No) (hsz : w.heap.size ≤ w5.heap.size)
    (hK5 : Kept2 w w5 (fun i => i ≠ b ∧ (i < base ∨ No i))) (hN : ∀ g, No g → g < w.heap.size)
    (e : w6 = (w5.alloc (.cells #[Value.int .u8 0, Value.int .u8 0, Value.int .u8 0, Value.int .u8 0] 65)).setCells w5.heap.size 0 (bcells (fourAt s k))) :
    Hid (BytesAt w6 w5.heap.size (fourAt s k)) ∧ w.heap.size ≤ w6.heap.size ∧ ∃ (v : Value) (st : Nat) (w8 : World), (Instr.mapEntry 57 (.map (some b)) (keyV (fourAt s k))).run Try.prog (w6.alloc (.cells #[Value.int .i64 (k : Int)] 3)) = .ok (.tuple #[v, .int .i64 st]) w8 ∧
      w.heap.size ≤ w8.heap.size ∧ Hid (∀ j u, [Value.int .i64 (k : Int)][j]? = some u → w8.cell? ((⟨w6.heap.size, 0, none⟩ : Addr).add j) = some u) ∧ Hid (w8.ownsInts base 3 .i64 v (placesI s (fourAt s k) k)) ∧
      Hid (∀ (w9 : World) (v' : Value), w8.grownBy w9 v.ownBlock → w9.ownsInts base 3 .i64 v' (placesI s (fourAt s k) k ++ [(k : Int)]) → (v'.ownBlock = v.ownBlock ∨ v'.ownBlock = some w8.heap.size) →
        ∃ w10, (Instr.entryStore 57 (.map (some b)) (.int .i64 st) v').run Try.prog w9 = .ok () w10 ∧ Hid (PMapAt w10 base b (k + 1) s No) ∧ Hid (Kept2 w w10 (fun i => i ≠ b ∧ (i < base ∨ No i)))) := by
  obtain ⟨hy6, hm6, hb6, hsz6⟩ := note_prep (fourAt_len _ _) h e
  have hm7 := pmap_kept (w' := w6.alloc (.cells #[Value.int .i64 (k : Int)] 3)) hm6 (World.grownBy_alloc _ _ none) (fun j hj => by cases hj)
  obtain ⟨v, st, w8, hent, hg8, hsz8, hoi, hvn, hback⟩ := pmap_note hm7 hk h4
  have hsz7 : (w6.alloc (.cells #[Value.int .i64 (k : Int)] 3)).heap.size = w6.heap.size + 1 := by simp
  have hblt := (pmap_lt hm6).1
  refine ⟨hy6, by omega, v, st, w8, hent, by omega, fun j u hj => hg8.cell (cell_one_new _ _ _ j u hj) (by rw [addr_at]; intro e1; have e2 : w6.heap.size = b := (by simpa using e1); omega), hoi, fun w9 v' hgrow ho9 hloc => ?_⟩
  obtain ⟨w10, hst, hm10, hg10⟩ := hback w9 v' hgrow ho9 (hloc.imp id (fun h => ⟨_, h, Nat.le_refl _, fun hno => by have := hN _ hno; omega⟩))
  refine ⟨w10, hst, hm10, ?_⟩
  refine hK5.trans ((Kept2.below hb6).trans ((Kept2.grown (World.grownBy_alloc w6 (.cells #[Value.int .i64 (k : Int)] 3) none) (fun j hj => by cases hj)).trans ((Kept2.grown hg8 (fun j hj hok => by cases hj; exact hok.1 rfl)).trans ((Kept2.grown hgrow (fun j hj hok => ?_)).trans (Kept2.grown hg10 (fun j hj hok => by cases hj; exact hok.1 rfl))))))
  have h1 := (hoi.1.lt j hj).1
  rcases hok.2 with h2 | h2
  · omega
  · exact hvn j hj h2

set_option maxHeartbeats 400000 in
set_option maxRecDepth 100000 in
theorem note_any (s : ByteArray) (b base k1 k2 : Nat) (w : World) (No : Nat → Prop) (hs : s.size ≤ 64) (h12 : k1 ≤ k2) (h2 : k2 ≤ s.size) (hN : ∀ g, No g → g < w.heap.size) (hB : base ≤ w.heap.size) (hp : PMapAt w base b k1 s.data.toList No) :
    Calls Try.prog 37 #[.map (some b), .string s, .int .i64 k1, .int .i64 k2] w fun e w' => e = .returned (.tuple #[]) ∧ PMapAt w' base b k2 s.data.toList No ∧ Kept2 w w' (fun i => i ≠ b ∧ (i < base ∨ No i)) := by
  have hl : s.data.toList.length = s.size := by simp
  obtain ⟨i0, hi, hz0, hz1, hz2⟩ := info_parts infoInt
  have HP := hide hp
  have HN := hide hN
  clear hp hN
  go_enter Try.func37, Try.ntmps37
  go_wp2
  go_loopw [8] (fun iv wr => ∃ k : Nat, k1 ≤ k ∧ k ≤ k2 ∧ iv = .int .i64 k ∧ Hid (PMapAt wr base b k s.data.toList No) ∧ Hid (Kept2 w wr (fun i => i ≠ b ∧ (i < base ∨ No i)))) (fun iv _ => k2 - (intOf iv).toNat)
  case atStart => exact ⟨k1, Nat.le_refl _, h12, rfl, HP, Kept2.refl _ _⟩
  case round =>
    obtain ⟨k, hk1, hk2, rfl, HM, HK⟩ := hrel
    have hsz := HK.out.2.2.2.1
    by_cases hlt : (k : Int) < k2
    · go_wp2_with fail
      refine (start_any s k _ hs (by omega)).mono ?_
      rintro e w5 ⟨rfl, hb5⟩
      have HM5 := hide (pmap_kept HM.out (grown_old hb5 none) (fun j hj => by cases hj))
      have HK5 := hide (HK.out.trans (Kept2.below hb5))
      have hsz5 := hb5.size
      clear HM HK hb5
      have hv := hide (bytes_made w5 [0, 0, 0, 0] #[Value.int .u8 0, Value.int .u8 0, Value.int .u8 0, Value.int .u8 0] 65 rfl)
      by_cases h4 : k + 4 ≤ s.size
      · rw [decide_eq_true h4]
        go_wp2_with (first
          | (refine wpList_store_key rfl _ _ rfl w5.heap.size _ [0, 0, 0, 0] rfl rfl hv.out (fourAt_len _ _) rfl ?_
             intro w6 hw6
             obtain ⟨HY, hsz6, v, st, w8, hent, hge, HC, HOI, HBK⟩ := note_entry (w := w) (by omega) (by rw [hl]; exact h4) HM5.out (by omega) HK5.out HN.out hw6
             clear hw6 HM5 HK5)
          | refine wpList_load_key rfl _ rfl _ rfl _ HY.out (fourAt_len _ _) ?_
          | (at_builtin
             refine wpList_append_own_at _ rfl _ _ 68 rfl base 3 i0 (.int .i64 0) 1 8 Try.underlying68 hi hz0 hz1 hz2 rfl (by decide) _ _ _ rfl HOI.out.1 ⟨w6.heap.size, 0, none⟩ 1 1 [.int .i64 (k : Int)] rfl rfl HC.out (one_i64 _) (by have := places_len s.data.toList (fourAt s.data.toList k) k; unfold maxLen; omega) (by have := places_len s.data.toList (fourAt s.data.toList k) k; omega) (by omega) ?_
             intro v' w9 hown' hgrow hnil hloc
             obtain ⟨w10, hst, HM10, HK10⟩ := HBK.out w9 v' hgrow (HOI.out.appended hown' (WalkArith.wf_i64 (by omega))) hloc
             clear hown' hgrow hnil hloc HBK HOI)
          | go_in)
        go_roundw
        case rel => exact ⟨k + 1, by omega, by omega, by go_num, HM10, HK10⟩
        case measure => simp [intOf]; omega
      · rw [decide_eq_false h4]
        go_wp2_with (first
          | (refine wpList_store_key rfl _ _ rfl w5.heap.size _ [0, 0, 0, 0] rfl rfl hv.out (fourAt_len _ _) rfl ?_
             intro w6 hw6
             obtain ⟨-, hm6, hb6, hsz6⟩ := note_prep (fourAt_len _ _) HM5.out hw6
             have HM6 := hide hm6
             have HK6 := hide (HK5.out.trans (Kept2.below hb6))
             clear hw6 hm6 hb6 HM5 HK5)
          | go_in)
        go_roundw
        case rel => exact ⟨k + 1, by omega, by omega, by go_num, pmap_skip HM6.out (by rw [hl]; exact h4), HK6⟩
        case measure => simp [intOf]; omega
    · have : k = k2 := by omega
      subst this
      go_wp2
      exact bodyPost_end (results_none rfl _ _ _) rfl ⟨rfl, HM.out, HK.out⟩
end Go.Proofs.Ytaolinlginloaab
