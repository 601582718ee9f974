/-
  The draw of tokens, right ones or not.
-/
import Derived.Test.YtaolinlginloaaaDrawK
import Derived.Test.YtaolinlginloaaaD3q
import Derived.Test.YtaolinlginloaaaSTok
import Derived.Test.YtaolinlginloaaaGRow
import Derived.Test.YtaolinlginloaaaZMath
namespace Go.Proofs.Ytaolinlginloaaa
open Go.RowKit
open Pack

theorem gcells_cons (t : Int × Int × ByteArray) (r : List (Int × Int × ByteArray)) : gcells (t :: r) = [.int .i64 t.1, .int .i64 t.2.1, .string t.2.2] ++ gcells r := by simp [gcells, gcell]
theorem gcells_upd (ls : List (Int × Int × ByteArray)) (k : Nat) (t : Int × Int × ByteArray) (h : ls[k]? = some t) :
    (∀ z : Int, (gcells ls).set (k * 3) (.int .i64 z) = gcells (ls.set k (z, t.2.1, t.2.2))) ∧ (∀ z : Int, (gcells ls).set (k * 3 + 1) (.int .i64 z) = gcells (ls.set k (t.1, z, t.2.2))) ∧ (∀ z : ByteArray, (gcells ls).set (k * 3 + 2) (.string z) = gcells (ls.set k (t.1, t.2.1, z))) := by
  induction ls generalizing k with
  | nil => simp at h
  | cons a r ih =>
    cases k with
    | zero =>
      simp at h
      subst h
      simp [gcells_cons]
    | succ k =>
      obtain ⟨h1, h2, h3⟩ := ih k (by simpa using h)
      refine ⟨fun z => ?_, fun z => ?_, fun z => ?_⟩
      · rw [List.set_cons_succ, gcells_cons, gcells_cons, ← h1 z, List.set_append_right _ _ (by simp; omega)]
        congr 2
        simp
        omega
      · rw [List.set_cons_succ, gcells_cons, gcells_cons, ← h2 z, List.set_append_right _ _ (by simp; omega)]
        congr 2
        simp
        omega
      · rw [List.set_cons_succ, gcells_cons, gcells_cons, ← h3 z, List.set_append_right _ _ (by simp; omega)]
        congr 2
        simp
        omega
theorem four_ints (w : World) (a b c d : Int) (t : TypeId) : ∀ j, j < [a, b, c, d].length → (w.alloc (.cells #[.int .i64 a, .int .i64 b, .int .i64 c, .int .i64 d] t)).cell? ⟨w.heap.size, j, none⟩ = some (.int .i64 ([a, b, c, d].getD j 0)) := by
  intro j hj
  match j, hj with
  | 0, _ => simp
  | 1, _ => simp
  | 2, _ => simp
  | 3, _ => simp
theorem three_ints (w : World) (a b c : Int) (t : TypeId) : ∀ j, j < [a, b, c].length → (w.alloc (.cells #[.int .i64 a, .int .i64 b, .int .i64 c] t)).cell? ⟨w.heap.size, j, none⟩ = some (.int .i64 ([a, b, c].getD j 0)) := by
  intro j hj
  match j, hj with
  | 0, _ => simp
  | 1, _ => simp
  | 2, _ => simp
/-- What the draw has made so far: the cursor, and a row of tokens beside it. -/
def RowD (w0 w : World) (p : Nat) (ad : Option Addr) (len cap : Nat) (g n cq : Nat) (ls : List (Int × Int × ByteArray)) : Prop :=
  w.ownsRow w0.heap.size 31 3 (.slice (some ⟨g, 0, none⟩) n cq) n (gcells ls) ∧ CurIn w p ad len cap ∧ Below w0.heap.size w0 w ∧ g ≠ p ∧ w0.heap.size ≤ p
theorem RowD.drawn {w0 w w' : World} {p : Nat} {ad : Option Addr} {len cap g n cq : Nat} {ls : List (Int × Int × ByteArray)} (h : RowD w0 w p ad len cap g n cq ls) (D : Drawn w w' p ad len cap) : RowD w0 w' p ad len cap g n cq ls :=
  ⟨h.1.kept D.1 (Or.inr (by simp [Value.ownBlock]; exact h.2.2.2.1)), D.2, h.2.2.1.trans (grown_below D.1 h.2.2.2.2 h.2.2.1.size), h.2.2.2⟩
theorem RowD.below {w0 w w' : World} {p : Nat} {ad : Option Addr} {len cap g n cq : Nat} {ls : List (Int × Int × ByteArray)} (h : RowD w0 w p ad len cap g n cq ls) (hb : Below w.heap.size w w') : RowD w0 w' p ad len cap g n cq ls :=
  ⟨own_below h.1 hb, h.2.1.below hb h.2.1.2.2.2.2.2, h.2.2.1.trans (hb.mono h.2.2.1.size), h.2.2.2⟩

theorem dtoks_len (s : List UInt8) (hs : s.length ≤ 64) : (toks s).length ≤ 64 := by
  have hp := (plain_toks s hs).1
  have hfit := fit_of [] s (toks s) (by simp) hp
  have hsz := sizes_of [] s (toks s) hp
  have : ∀ l : List (Nat × Nat × List UInt8), (∀ t ∈ l, Fit t) → l.length ≤ sizes l := by
    intro l
    induction l with
    | nil => intro _; simp [sizes]
    | cons t r ih =>
      intro hf
      have h1 := ih (fun u hu => hf u (by simp [hu]))
      have h2 : 1 ≤ t.2.1 + t.2.2.length := by
        rcases hf t (by simp) with ⟨_, h, _⟩ | ⟨_, _, h, _⟩ <;> omega
      simp only [sizes, List.map_cons, List.sum_cons, List.length_cons] at h1 ⊢
      omega
  have h1 := this (toks s) hfit
  simp at hsz
  omega

set_option maxHeartbeats 2000000 in
set_option maxRecDepth 100000 in
theorem drawPl_any (ad : Option Addr) (len cap : Nat) (w : World) (hl : len ≤ 1048576) (hd : CodeIn w ad len w.heap.size) :
    Calls Try.prog 18 #[.slice ad len cap] w fun e w' => ∃ (v : Value) (ls : List (Int × Int × ByteArray)), e = .returned v ∧ ls.length ≤ 128 ∧ w'.ownsRow w.heap.size 31 3 v ls.length (gcells ls) ∧ Below w.heap.size w w' := by
  obtain ⟨i0, hi, hz0, hz1, hz2⟩ := info_parts infoTok
  have HD := hide hd
  clear hd
  go_enter Try.func18, Try.ntmps18
  go_wp2_with fail
  refine (new_any ad len cap w.heap.size _ hl HD.out).mono ?_
  rintro e w1 ⟨p, rfl, hp, hc, hb⟩
  have HC := hide hc
  have hs := hb.size
  have hpw := hc.2.2.2.2.2
  have HB := hide hb
  have HD1 := hide (HD.out.on hb (Nat.le_refl _))
  clear hc hb
  go_wp2_with fail
  refine (plainD_any p ad len cap w.heap.size _ hl HC.out HD1.out hp).mono ?_
  rintro e w2 ⟨t, rfl, ht, D2⟩
  have HR2 := hide D2
  have hs2 := D2.1.size
  clear D2
  go_wp2_with fail
  refine (toks_any t _ ht).mono ?_
  rintro e w3 ⟨v, rfl, ho, hb3⟩
  have hn64 := dtoks_len t.data.toList (by simpa using ht)
  rw [tcells_g] at ho
  obtain ⟨ls, hls⟩ : ∃ ls, (toks t.data.toList).map gtok = ls := ⟨_, rfl⟩
  have hln : (toks t.data.toList).length = ls.length := by rw [← hls]; simp
  rw [hls, hln] at ho
  rw [hln] at hn64
  have HB3 := hide (HB.out.trans ((grown_below HR2.out.1 hp hs).trans (hb3.mono (by omega))))
  have HC3 := hide (HR2.out.2.below hb3 HR2.out.2.2.2.2.2.2)
  have hpw2 := HR2.out.2.2.2.2.2.2
  obtain ⟨ao, cq, rfl, q1, q2, q3⟩ := row_form3 ho
  have HO := hide ho
  have Q3 := hide q3
  clear hls hln ho q3 hb3 HR2 HC ht
  unfold maxLen at q2
  by_cases h0 : (0 : Int) < ls.length
  · obtain ⟨g, rfl, hg1, hg2⟩ := Q3.out (by omega)
    have HRD : Hid (RowD w w3 p ad len cap g ls.length cq ls) := ⟨own_lower HO.out (by omega), HC3.out, HB3.out, by omega, hp⟩
    have HDD : Hid (∀ w', Below w.heap.size w w' → CodeIn w' ad len w.heap.size) := fun w' hb => HD.out.on hb (Nat.le_refl _)
    clear HO Q3 HB3 HC3 HD1 HB
    go_wp2_with fail
    refine (below_any _ p ad len cap w.heap.size _ (by omega) hl HRD.out.2.1 (HDD.out _ HRD.out.2.2.1) hp).mono ?_
    rintro e w4 ⟨x, rfl, x0, x1, _, D4⟩
    have x2 := x1 (by omega)
    obtain ⟨k, rfl⟩ := Int.eq_ofNat_of_zero_le x0
    have HR4 := hide (HRD.out.drawn D4)
    have hkl : k < ls.length := by omega
    obtain ⟨tk, htk⟩ : ∃ tk, ls[k]? = some tk := ⟨_, List.getElem?_eq_getElem hkl⟩
    have HU := hide (gcells_upd ls k tk htk)
    have hset : ∀ y, (ls.set k y).length = ls.length := fun y => by simp
    have HSET := hide hset
    clear D4 HRD x1 htk hset
    go_wp2_with fail
    refine (below_any 8 p ad len cap w.heap.size _ (by omega) hl HR4.out.2.1 (HDD.out _ HR4.out.2.2.1) hp).mono ?_
    rintro e w5 ⟨y, rfl, y0, y1, _, D5⟩
    have HR5 := hide (HR4.out.drawn D5)
    have hs5 := HR5.out.2.2.1.size
    have hpw5 := HR5.out.2.1.2.2.2.2.2
    clear D5 HR4 y1
    by_cases e0 : (y == 0) = true
    · have HR6 := hide (HR5.out.below ((Below.refl _ _).alloc (Nat.le_refl _) (.cells #[.int .i64 (-1), .int .i64 0, .int .i64 1, .int .i64 9] 3)))
      go_wp2_with fail
      refine (pickIn_any w5.heap.size [-1, 0, 1, 9] p ad len cap w.heap.size _ (by decide) (by decide) (by omega) (four_ints w5 _ _ _ _ 3) hl HR6.out.2.1 (HDD.out _ HR6.out.2.2.1) hp).mono ?_
      rintro e w7 ⟨z, rfl, hz, D7⟩
      have HR7 := hide (HR6.out.drawn D7)
      obtain ⟨c1, c2, c3⟩ := gown_cells HR7.out.1 (show ls[k]? = some ls[k] from List.getElem?_eq_getElem hkl)
      have f1 := HR7.out.1.frozenAt (k * 3)
      have o8 := own_set HR7.out.1 rfl (k * 3) (.int .i64 z)
      rw [HU.out.1 z] at o8
      have b8 := HR7.out.2.2.1.setCell (p := ⟨g, k * 3, none⟩) (show w.heap.size ≤ g by omega) (.int .i64 z)
      have O8 := hide o8
      have B8 := hide b8
      clear D7 HR5 HR6 HR7 o8 b8 hz c2 c3
      go_wp2
      go_ret
      exact ⟨_, ls.set k (z, tk.2.1, tk.2.2), rfl, (by rw [HSET.out]; omega), (by rw [HSET.out]; exact O8.out), B8.out⟩
    · have e0f : (y == 0) = false := by simpa using e0
      by_cases e1 : (y == 1) = true
      · have HR6 := hide (HR5.out.below ((Below.refl _ _).alloc (Nat.le_refl _) (.cells #[.int .i64 0, .int .i64 1, .int .i64 31, .int .i64 32] 3)))
        go_wp2_with fail
        refine (pickIn_any w5.heap.size [0, 1, 31, 32] p ad len cap w.heap.size _ (by decide) (by decide) (by omega) (four_ints w5 _ _ _ _ 3) hl HR6.out.2.1 (HDD.out _ HR6.out.2.2.1) hp).mono ?_
        rintro e w7 ⟨z, rfl, hz, D7⟩
        have HR7 := hide (HR6.out.drawn D7)
        obtain ⟨c1, c2, c3⟩ := gown_cells HR7.out.1 (show ls[k]? = some ls[k] from List.getElem?_eq_getElem hkl)
        have f1 := HR7.out.1.frozenAt (k * 3 + 1)
        have o8 := own_set HR7.out.1 rfl (k * 3 + 1) (.int .i64 z)
        rw [HU.out.2.1 z] at o8
        have b8 := HR7.out.2.2.1.setCell (p := ⟨g, k * 3 + 1, none⟩) (show w.heap.size ≤ g by omega) (.int .i64 z)
        have O8 := hide o8
        have B8 := hide b8
        clear D7 HR5 HR6 HR7 o8 b8 hz c1 c3
        go_wp2
        go_ret
        exact ⟨_, ls.set k (tk.1, z, tk.2.2), rfl, (by rw [HSET.out]; omega), (by rw [HSET.out]; exact O8.out), B8.out⟩
      · have e1f : (y == 1) = false := by simpa using e1
        by_cases e2 : (y == 2) = true
        · have HR6 := hide (HR5.out.below ((Below.refl _ _).alloc (Nat.le_refl _) (.cells #[.int .i64 0, .int .i64 31, .int .i64 32] 3)))
          go_wp2_with fail
          refine (pickIn_any w5.heap.size [0, 31, 32] p ad len cap w.heap.size _ (by decide) (by decide) (by omega) (three_ints w5 _ _ _ 3) hl HR6.out.2.1 (HDD.out _ HR6.out.2.2.1) hp).mono ?_
          rintro e w7 ⟨z, rfl, hz, D7⟩
          have HR7 := hide (HR6.out.drawn D7)
          have hz3 : 0 ≤ z ∧ z ≤ 32 := by
            have := hz.out
            simp at this
            omega
          obtain ⟨z0, z1⟩ := hz3
          clear D7 HR5 HR6 hz
          go_wp2_with fail
          refine (longK_int z 66 _ z0 (by omega) (by omega)).mono ?_
          rintro e w8 ⟨u, rfl, hu, hb8⟩
          have HR8 := hide (HR7.out.below hb8)
          obtain ⟨c1, c2, c3⟩ := gown_cells HR8.out.1 (show ls[k]? = some ls[k] from List.getElem?_eq_getElem hkl)
          have f1 := HR8.out.1.frozenAt (k * 3 + 2)
          have o8 := own_set HR8.out.1 rfl (k * 3 + 2) (.string u)
          rw [HU.out.2.2 u] at o8
          have b8 := HR8.out.2.2.1.setCell (p := ⟨g, k * 3 + 2, none⟩) (show w.heap.size ≤ g by omega) (.string u)
          have O8 := hide o8
          have B8 := hide b8
          clear hb8 HR7 HR8 o8 b8 c1 c2 hu
          go_wp2
          go_ret
          exact ⟨_, ls.set k (tk.1, tk.2.1, u), rfl, (by rw [HSET.out]; omega), (by rw [HSET.out]; exact O8.out), B8.out⟩
        · have e2f : (y == 2) = false := by simpa using e2
          by_cases e3 : (y == 3) = true
          · go_wp2_with (at_builtin; refine wpList_append_own _ rfl _ _ 27 rfl w.heap.size 31 i0 (.agg #[.int .i64 0, .int .i64 0, .string ⟨#[]⟩]) 3 32 Try.underlying27 hi hz0 hz1 hz2 rfl (by decide) _ _ _ rfl (by exact HR5.out.1) ⟨g, 0, none⟩ ls.length cq (gcells ls) rfl (gcells_len ls) (by exact HR5.out.1.cells (g := g) rfl) (by intro v hv; obtain ⟨t, _, ht⟩ := List.mem_flatMap.1 hv; simp [gcell] at ht; rcases ht with h | h | h <;> subst h <;> rfl) (by unfold maxLen; omega) (by omega) (by omega) ?_)
            intro v8 w8 ho8 hg8 _
            have hl8 : (ls ++ ls).length = ls.length + ls.length := by simp
            have O8 : Hid (w8.ownsRow w.heap.size 31 3 v8 (ls ++ ls).length (gcells (ls ++ ls))) := by
              show World.ownsRow _ _ _ _ _ _ _
              rw [hl8, gcells_app]
              exact ho8
            have B8 := hide (HR5.out.2.2.1.grown hg8 (by omega) (fun j hj => (HR5.out.1.lt j hj).1))
            clear ho8 hg8 HR5
            go_wp2
            go_ret
            exact ⟨_, ls ++ ls, rfl, by omega, O8.out, B8.out⟩
          · have e3f : (y == 3) = false := by simpa using e3
            go_wp2
            go_ret
            exact ⟨_, ls, rfl, by omega, HR5.out.1, HR5.out.2.2.1⟩
  · go_wp2
    go_ret
    exact ⟨_, ls, rfl, by omega, own_lower HO.out (by omega), HB3.out⟩
end Go.Proofs.Ytaolinlginloaaa
