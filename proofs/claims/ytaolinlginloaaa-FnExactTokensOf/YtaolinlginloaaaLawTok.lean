/-
  The walk of the law on TokensOf.
-/
import Derived.Test.YtaolinlginloaaaITok
import Derived.Test.YtaolinlginloaaaSTok
import Derived.Test.YtaolinlginloaaaMarkT
namespace Go.Proofs.Ytaolinlginloaaa
open Go.RowKit
open Pack

theorem toks_long (s : ByteArray) (w : World) (hs : 64 < s.size) :
    Calls Try.prog 25 #[.string s] w fun e w' => TRow w e w' [] := by
  have h1 : (64 : Int) < s.size := by omega
  go_enter Try.func25, Try.ntmps25
  go_wp2
  go_ret
  exact ⟨_, rfl, World.ownsRow_made w #[] 0 (Nat.le_refl _) (by unfold maxLen; omega) (by simp), (Below.refl _ _).alloc (Nat.le_refl _) _⟩

theorem toks_len (s : List UInt8) (hs : s.length ≤ 64) : (toks s).length ≤ 64 := by
  have h1 : ∀ m, (stepsT m s).2.length ≤ m := by
    intro m
    induction m with
    | zero => exact Nat.le_refl _
    | succ m ih =>
      by_cases hk : (stepsT m s).1 < s.length
      · obtain ⟨k, l, h⟩ : ∃ k l, stepsT m s = (k, l) := ⟨_, _, rfl⟩
        rw [h] at ih hk
        rw [steps_one s m k l h hk]
        simp only at ih hk
        have hd : l.dropLast.length ≤ l.length := by rw [List.length_dropLast]; omega
        unfold Pack.stepT
        simp only
        split
        · rw [List.length_append]
          exact Nat.add_le_add ih (Nat.le_refl 1)
        · split
          · split
            · rw [List.length_append]
              exact Nat.add_le_add (Nat.le_trans hd ih) (Nat.le_refl 1)
            · rw [List.length_append]
              exact Nat.add_le_add ih (Nat.le_refl 1)
          · rw [List.length_append]
            exact Nat.add_le_add ih (Nat.le_refl 1)
      · rw [steps_stay s m 1 (by omega)]
        omega
  have := h1 s.length
  unfold toks
  omega

/-- Both answer the same row. -/
theorem toks_both (s : ByteArray) : ∃ l : List (Nat × Nat × List UInt8), l.length ≤ 64 ∧ (∀ w, Calls Try.prog 25 #[.string s] w fun e w' => TRow w e w' l) ∧ (∀ w, Calls Try.prog 16 #[.string s] w fun e w' => TRow w e w' l) := by
  by_cases hs : s.size ≤ 64
  · exact ⟨_, toks_len _ (by simpa using hs), fun w => toks_any s w hs, fun w => itoks_any s w hs⟩
  · exact ⟨[], by simp, fun w => toks_long s w (by omega), fun w => itoks_long s w (by omega)⟩
theorem own_low {w w' : World} {B C : Nat} {e : TypeId} {z : Nat} {v : Value} {n : Nat} {xs : List Value} (h : w.ownsRow B e z v n xs) (hb : Below C w w') (hlt : ∀ k, v.ownBlock = some k → k < C) : w'.ownsRow B e z v n xs := by
  rcases h.2 with ⟨h1, h2⟩ | ⟨g, cap, cur, h1, h2, h3, h4, h5, h6, h7⟩
  · exact ⟨h.1, .inl ⟨h1, h2⟩⟩
  · exact ⟨h.1, .inr ⟨g, cap, cur, h1, h2, (hb.block g (hlt g (by rw [h1]; rfl))).trans h3, h4, h5, h6, h7⟩⟩

set_option maxHeartbeats 1000000 in
set_option maxRecDepth 100000 in
theorem lawTok (a0 : ByteArray) (_w0 : a0.size ≤ maxLen) (w : World) :
    Calls Try.prog 8 #[.string a0] w fun e w' => e = .returned (.bool true) ∧ Below w.heap.size w w' := by
  by_cases hs : (1048576 : Int) < a0.size
  · go_enter Try.func8, Try.ntmps8
    go_wp2
    go_ret
    exact ⟨rfl, Below.refl _ _⟩
  · obtain ⟨l, hl, h1, h2⟩ := toks_both a0
    have H1 := hide h1
    have H2 := hide h2
    clear h1 h2
    have hn : (l.map gtok).length = l.length := by simp
    have ne : Hid (∀ z : Int, (z != z) = false) := fun z => by simp
    go_enter Try.func8, Try.ntmps8
    go_wp2_with fail
    refine (H1.out _).mono ?_
    rintro e w1 ⟨vs, rfl, os1, b1⟩
    rw [tcells_g, ← hn] at os1
    go_wp2_with fail
    refine (H2.out _).mono ?_
    rintro e w2 ⟨vg, rfl, og2, b2⟩
    rw [tcells_g, ← hn] at og2
    have low : Hid (∀ k, vs.ownBlock = some k → k < w1.heap.size) := fun k hk => (os1.lt k hk).2
    have os2 := own_below os1 b2
    have c2 : Below w.heap.size w w2 := b1.trans (b2.mono b1.size)
    have s1 := b1.size
    have s2 := b2.size
    go_wp2_with fail
    refine (eqTS_any vg vs _ _ _ _ (by omega) og2 os2).mono ?_
    rintro e w3 ⟨rfl, b3⟩
    have og3 := own_below og2 b3
    have os3 := own_below os2 b3
    have c3 : Below w.heap.size w w3 := c2.trans (b3.mono (by omega))
    have s3 := b3.size
    clear os1 og2 os2 c2 b3
    go_wp2_with fail
    refine (markTS_any vg _ _ _ (by omega) og3).mono ?_
    rintro e w4 ⟨rfl, og4, b4⟩
    have c4 : Below w.heap.size w w4 := c3.trans (b4.mono (by omega))
    have s4 := b4.size
    have os4 := own_low os3 b4 low.out
    clear og3 os3 c3
    go_wp2_with fail
    refine (heldTS_any vg (l.map gtok).length _ _ (by omega) og4).mono ?_
    rintro e w5 ⟨rfl, b5⟩
    have og5 := own_below og4 b5
    have os5 := own_below os4 b5
    have c5 : Below w.heap.size w w5 := c4.trans (b5.mono (by omega))
    have s5 := b5.size
    clear og4 os4 c4 b5 b4
    have g0 : ¬ ((l.map gtok).length : Int) * 3 + 1 < 0 := by omega
    have g1 := ne.out (((l.map gtok).length : Int) * 3 + 1)
    go_wp2_with fail
    refine (H2.out _).mono ?_
    rintro e w6 ⟨vh, rfl, oh6, b6⟩
    rw [tcells_g, ← hn] at oh6
    have og6 := own_below og5 b6
    have os6 := own_below os5 b6
    have c6 : Below w.heap.size w w6 := c5.trans (b6.mono (by omega))
    have s6 := b6.size
    clear og5 os5 c5 b6
    go_wp2_with fail
    refine (eqTS_any vh vs _ _ _ _ (by omega) oh6 os6).mono ?_
    rintro e w7 ⟨rfl, b7⟩
    have og7 := own_below og6 b7
    have c7 : Below w.heap.size w w7 := c6.trans (b7.mono (by omega))
    have s7 := b7.size
    clear og6 os6 oh6 c6 b7
    go_wp2_with fail
    refine (heldTS_any vg (l.map gtok).length _ _ (by omega) og7).mono ?_
    rintro e w8 ⟨rfl, b8⟩
    have c8 : Below w.heap.size w w8 := c7.trans (b8.mono (by omega))
    clear og7 c7 b8
    go_wp2
    go_ret
    exact ⟨rfl, c8⟩
end Go.Proofs.Ytaolinlginloaaa
