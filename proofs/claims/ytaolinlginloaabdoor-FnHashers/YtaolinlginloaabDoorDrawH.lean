/-
  The draw of a hasher.
-/
import Derived.Test.YtaolinlginloaabDoorDrawD
import Derived.Test.YtaolinlginloaabDoorMore2
import Derived.Test.YtaolinlginloaabDoorNew
import Derived.Test.YtaolinlginloaabDoorHAt
namespace Go.Proofs.YtaolinlginloaabDoor
open Go.RowKit
open Dig

/-- What the specification's HashMore gives, whatever the hasher; sizes are bounded. -/
theorem specMore_some (s r t : ByteArray) (c : Int) (w : World) (hs : s.size ≤ 1000) (hr : r.size ≤ 1000) (ht : t.size ≤ 200) :
    Calls Tryd.prog 16 #[.agg #[.string s, .string r, .int .i64 c], .string t] w fun e w' => ∃ (s' r' : ByteArray) (c' : Int), e = .returned (.agg #[.string s', .string r', .int .i64 c']) ∧ (s'.size ≤ 1000 ∧ r'.size ≤ 1000 ∧ (c' = c ∨ (0 ≤ c' ∧ c' ≤ 1000000000))) ∧ Below w.heap.size w w' := by
  by_cases hR : HRight s r c
  · obtain ⟨n, rfl⟩ := Int.eq_ofNat_of_zero_le hR.2.2.1
    by_cases hb : (1000000000 : Int) < (n : Int) + t.size
    · refine (specMore_big s r t n w hR (by omega) hb).mono ?_
      rintro e w' ⟨rfl, h⟩
      exact ⟨s, r, n, rfl, ⟨hs, hr, .inl rfl⟩, h⟩
    · refine (specMore_yes s r t n w hR (by omega) (by omega)).mono ?_
      rintro e w' ⟨rfl, h⟩
      have hst := words_st s.data.toList (by simpa using hR.1)
      refine ⟨_, _, _, rfl, ⟨?_, ?_, .inr ⟨by omega, by omega⟩⟩, h⟩
      · show (bytesOf _).toArray.size ≤ 1000
        rw [List.size_toArray, bytesOf_len (mixes_st hst _ _)]
        omega
      · have := hR.2.1
        have hsz : (r ++ t).size = r.size + t.size := ByteArray.size_append
        simp
        omega
  · refine (specMore_no s r t c w (by unfold maxLen; omega) hR).mono ?_
    rintro e w' ⟨rfl, h⟩
    exact ⟨s, r, c, rfl, ⟨hs, hr, .inl rfl⟩, h⟩

theorem drawn_set1 {w w' : World} {p g i : Nat} {ad : Option Addr} {len cap : Nat} {a : Value} (h : Drawn w w' p ad len cap) (hg : w.heap.size ≤ g) (hp : p < w.heap.size) : Drawn w (w'.setCell ⟨g, i, none⟩ a) p ad len cap :=
  h.below ((Below.refl w.heap.size w').setCell (p := ⟨g, i, none⟩) hg a) hp
theorem drawn_set {w w' : World} {p g : Nat} {ad : Option Addr} {len cap : Nat} {a b d : Value} (h : Drawn w w' p ad len cap) (hg : w.heap.size ≤ g) (hp : p < w.heap.size) : Drawn w (((w'.setCell ⟨g, 0, none⟩ a).setCell ⟨g, 1, none⟩ b).setCell ⟨g, 2, none⟩ d) p ad len cap :=
  h.below ((((Below.refl w.heap.size w').setCell (p := ⟨g, 0, none⟩) hg a).setCell (p := ⟨g, 1, none⟩) hg b).setCell (p := ⟨g, 2, none⟩) hg d) hp

/-- What the draw of a hasher gives. -/
def DrewH (w : World) (e : Ending) (w' : World) (p : Nat) (ad : Option Addr) (len cap : Nat) : Prop := ∃ (s r : ByteArray) (c : Int), e = .returned (.agg #[.string s, .string r, .int .i64 c]) ∧ (s.size ≤ 1000 ∧ r.size ≤ 2000 ∧ -1000000000 ≤ c ∧ c ≤ 3000000000) ∧ Drawn w w' p ad len cap

set_option maxHeartbeats 1000000 in
set_option maxRecDepth 100000 in
theorem hasher_any (p : Nat) (ad : Option Addr) (len cap B : Nat) (w : World) (hl : len ≤ 1048576) (hc : CurIn w p ad len cap) (hd : CodeIn w ad len B) (hB : B ≤ p) :
    Calls Tryd.prog 31 #[.pointer (some ⟨p, 0, none⟩)] w fun e w' => DrewH w e w' p ad len cap := by
  have hpw := hc.2.2.2.2.2
  have HC := hide hc
  have HD := hide hd
  clear hc hd
  obtain ⟨F0, hF⟩ : ∃ F0, F0 = bytesOf first := ⟨_, rfl⟩
  have hN := specNew
  rw [← hF] at hN
  have hF32 : (⟨F0.toArray⟩ : ByteArray).size ≤ 1000 := by
    show F0.toArray.size ≤ 1000
    rw [List.size_toArray, hF, bytesOf_len first_st]; omega
  have HN := hide hN
  clear hF hN
  generalize (⟨F0.toArray⟩ : ByteArray) = F1 at HN hF32
  go_enter Tryd.func31, Tryd.ntmps31
  go_wp2_with fail
  refine (HN.out _).mono ?_
  rintro e w1 ⟨rfl, hb1⟩
  clear HN
  have hB1 : Below (w.heap.size + 1) (w.alloc (.cells #[.string ⟨#[]⟩, .string ⟨#[]⟩, .int .i64 0] 28)) w1 := by simpa using hb1
  have hR1 : HAt w1 w.heap.size ⟨#[]⟩ ⟨#[]⟩ 0 := HAt.below (C := w.heap.size + 1) (w := w.alloc (.cells #[.string ⟨#[]⟩, .string ⟨#[]⟩, .int .i64 0] 28)) ⟨by simp, by simp, by simp, by simp, by simp, by simp, by simp⟩ hB1 (by omega)
  have D1 : Drawn w w1 p ad len cap := Drawn.below (Drawn.refl HC.out) (((Below.refl _ _).alloc (Nat.le_refl _) _).trans (hB1.mono (by omega))) hpw
  have hw1 := hR1.1
  have HR1 := hide hR1
  have E1 := hide D1
  clear hb1 hB1 hR1 D1 HC
  go_wp2
  have hne : w1.heap.size ≠ w.heap.size := by omega
  have hnp : w1.heap.size ≠ p := by omega
  have hnp2 : w.heap.size ≠ p := by omega
  go_loopw [4] (fun iv wr => ∃ (i : Nat) (s r : ByteArray) (c : Int), i ≤ 2 ∧ iv = .int .i64 i ∧ Hid (HAt wr w1.heap.size s r c) ∧ (s.size ≤ 1000 ∧ r.size ≤ 1000 ∧ 0 ≤ c ∧ c ≤ 1000000000) ∧ Hid (HAt wr w.heap.size ⟨#[]⟩ ⟨#[]⟩ 0) ∧ Hid (Drawn w wr p ad len cap)) (fun iv _ => 3 - (intOf iv).toNat)
  case atStart => exact ⟨0, F1, ⟨#[]⟩, 0, by omega, rfl, (⟨by simp, by simp, by simp, by simp, by simp, by simp, by simp⟩ : HAt _ _ _ _ _), ⟨hF32, by decide, by omega, by omega⟩, HR1.out.below ((Below.refl w1.heap.size w1).alloc (Nat.le_refl _) _) hw1, E1.out.below (((Below.refl w1.heap.size w1).alloc (Nat.le_refl _) _).mono (by omega)) hpw⟩
  case round =>
    obtain ⟨i, s, r, c, hi2, rfl, HH, ⟨b1, b2, b3, b4⟩, HZ, E⟩ := hrel
    have hszr := E.out.1.size
    have HDr := hide (E.out.code HD.out hB hpw)
    go_wp2_with fail
    refine (below_any 3 p ad len cap B _ (by omega) hl E.out.2 HDr.out hB).mono ?_
    rintro e w3 ⟨x, rfl, x0, x1, _, D3⟩
    have x2 := x1 (by omega)
    have HD3 := hide (D3.code HDr.out hB (by omega))
    have HH3 := hide (HH.out.grown D3.1 hnp)
    have HZ3 := hide (HZ.out.grown D3.1 hnp2)
    have E3 := hide (E.out.trans D3)
    have hs3 := E3.out.1.size
    clear D3 HDr HH HZ E x1
    by_cases hix : (i : Int) < x
    · obtain ⟨k1, k2, k3, k4, k5, k6, k7⟩ := HH3.out
      have HT : Hid (Calls Tryd.prog 18 #[.pointer (some ⟨p, 0, none⟩)] w3.drew fun e w5 => ∃ t : ByteArray, e = .returned (.string t) ∧ t.size ≤ 200 ∧ (w5.cell? ⟨w1.heap.size, 0, none⟩ = some (.string s) ∧ w5.cell? ⟨w1.heap.size, 1, none⟩ = some (.string r) ∧ w5.cell? ⟨w1.heap.size, 2, none⟩ = some (.int .i64 c)) ∧ Hid (HAt w5 w1.heap.size s r c) ∧ Hid (HAt w5 w.heap.size ⟨#[]⟩ ⟨#[]⟩ 0) ∧ Hid (Drawn w w5 p ad len cap)) := by
        have Ed : Drawn w w3.drew p ad len cap := E3.out.below (Below.refl w.heap.size w3).drew hpw
        refine (text3_any p ad len cap B w3.drew hl Ed.2 (HD3.out.on (Below.refl B w3).drew (Nat.le_refl _)) hB).mono ?_
        rintro e w5 ⟨t, rfl, ht, D5⟩
        have HH5 := HAt.grown (w := w3.drew) HH3.out D5.1 hnp
        exact ⟨t, rfl, ht, ⟨HH5.2.1, HH5.2.2.1, HH5.2.2.2.1⟩, HH5, HAt.grown (w := w3.drew) HZ3.out D5.1 hnp2, Ed.trans D5⟩
      clear HH3 HZ3 E3 HD3
      go_wp2
      go_region_with (first
        | (go_at_call 18; refine HT.out.mono ?_; rintro e w5 ⟨t, rfl, ht, ⟨m1, m2, m3⟩, HH5, HZ5, E5⟩)
        | (go_at_call 16; refine (specMore_some s r t c _ b1 b2 ht).mono ?_; rintro e w6 ⟨s', r', c', rfl, hbd, hb6⟩; obtain ⟨n1, n2, n3, n4, n5, n6, n7⟩ := HH5.out.below hb6 HH5.out.1))
      all_goals
        have HH6 := hide (HAt.set (s' := s') (r' := r') (c' := c') (HH5.out.below hb6 HH5.out.1))
        have HZ6 := hide (HAt.far (a := .string s') (b := .string r') (d := .int .i64 c') (HZ5.out.below hb6 HZ5.out.1) hne)
        have E6 := hide (drawn_set (a := .string s') (b := .string r') (d := .int .i64 c') (E5.out.below (hb6.mono (by have := E5.out.1.size; omega)) hpw) (show w.heap.size ≤ w1.heap.size by omega) hpw)
        generalize ((w6.setCell ⟨w1.heap.size, 0, none⟩ (.string s')).setCell ⟨w1.heap.size, 1, none⟩ (.string r')).setCell ⟨w1.heap.size, 2, none⟩ (.int .i64 c') = w7 at HH6 HZ6 E6
        have hbd2 : s'.size ≤ 1000 ∧ r'.size ≤ 1000 ∧ 0 ≤ c' ∧ c' ≤ 1000000000 := ⟨hbd.1, hbd.2.1, by omega, by omega⟩
        clear HH5 HZ5 E5 hb6 HT n1 n2 n3 n4 n5 n6 n7 k1 k2 k3 k4 k5 k6 k7 m1 m2 m3
        go_wp2
        go_roundw
        case rel => exact ⟨i + 1, s', r', c', by omega, by go_num, HH6, hbd2, HZ6, E6⟩
        case measure => simp [intOf]; omega
    · clear HR1 E1
      go_wp2_with fail
      refine (below_any 16 p ad len cap B _ (by omega) hl E3.out.2 HD3.out hB).mono ?_
      rintro e w4 ⟨x4, rfl, x40, x41, _, D4⟩
      have HD4 := hide (D4.code HD3.out hB (by omega))
      have HH4 := hide (HH3.out.grown D4.1 hnp)
      have HZ4 := hide (HZ3.out.grown D4.1 hnp2)
      have E4 := hide (E3.out.trans D4)
      have hs4 := E4.out.1.size
      clear D4 HD3 HH3 HZ3 E3 x41
      by_cases h0 : x4 = 0
      · subst h0
        go_wp2_with fail
        refine (below_any 40 p ad len cap B _ (by omega) hl E4.out.2 HD4.out hB).mono ?_
        rintro e w5 ⟨x5, rfl, x50, x51, _, D5⟩
        have HD5 := hide (D5.code HD4.out hB (by omega))
        have HH5 := hide (HH4.out.grown D5.1 hnp)
        have HZ5 := hide (HZ4.out.grown D5.1 hnp2)
        have E5 := hide (E4.out.trans D5)
        have hs5 := E5.out.1.size
        have x52 := x51 (by omega)
        clear D5 HD4 HH4 HZ4 E4 x51
        go_wp2_with fail
        refine (text_any x5 p ad len cap B _ hl E5.out.2 HD5.out hB).mono ?_
        rintro e w6 ⟨t6, rfl, ht6, ht62, D6⟩
        have HH6 := hide (HH5.out.grown D6.1 hnp)
        have HZ6 := hide (HZ5.out.grown D6.1 hnp2)
        have E6 := hide (E5.out.trans D6)
        clear D6 HD5 HH5 HZ5 E5
        have hsz6 : (⟨t6.toArray⟩ : ByteArray).size ≤ 1000 := by show t6.toArray.size ≤ 1000; simp; omega
        generalize (⟨t6.toArray⟩ : ByteArray) = T6 at hsz6
        have HH7 := hide (HH6.out.set1.1 T6)
        have HZ7 := hide (HZ6.out.far1 (i := 0) (a := .string T6) hne)
        have E7 := hide (drawn_set1 (i := 0) (a := .string T6) E6.out (show w.heap.size ≤ w1.heap.size by omega) hpw)
        obtain ⟨-, k2, k3, k4, k5, k6, k7⟩ := HH6.out
        clear HH6 HZ6 E6
        obtain ⟨y1, y2, y3, y4, y5, y6, y7⟩ := HH7.out
        obtain ⟨z1, z2, z3, z4, z5, z6, z7⟩ := HZ7.out
        have T := hide (HAt.set (s' := T6) (r' := r) (c' := c) HZ7.out)
        have EF := hide (drawn_set (a := .string T6) (b := .string r) (d := .int .i64 c) E7.out (Nat.le_refl w.heap.size) hpw)
        have BD : Hid ((T6).size ≤ 1000 ∧ (r).size ≤ 2000 ∧ -1000000000 ≤ c ∧ c ≤ 3000000000) := ⟨hsz6, by omega, by omega, by omega⟩
        clear HH7 HZ7 E7 z1 y1
        go_wp2
        generalize (((w6.setCell ⟨w1.heap.size, 0, none⟩ (.string T6)).setCell ⟨w.heap.size, 0, none⟩ (.string T6)).setCell ⟨w.heap.size, 1, none⟩ (.string r)).setCell ⟨w.heap.size, 2, none⟩ (.int .i64 c) = wF at T EF
        obtain ⟨-, q0, q1, q2, -⟩ := T.out
        refine bodyPost_ret (v := .agg #[.string T6, .string r, .int .i64 c]) (by simp [results, Tryd.results31, go_sem, q0, q1, q2]) rfl ⟨_, _, _, rfl, BD.out, EF.out⟩
      · have n0 : (x4 == 0) = false := by rw [beq_eq_false_iff_ne]; exact h0
        by_cases h1 : x4 = 1
        · subst h1
          have hsz6 : (r ++ ⟨#[120]⟩ : ByteArray).size ≤ 2000 := by
            rw [ByteArray.size_append]
            show r.size + 1 ≤ 2000
            omega
          obtain ⟨R6, hR6⟩ : ∃ R6, r ++ ⟨#[120]⟩ = R6 := ⟨_, rfl⟩
          rw [hR6] at hsz6
          have HH7 := hide (HH4.out.set1.2.1 R6)
          have HZ7 := hide (HZ4.out.far1 (i := 1) (a := .string R6) hne)
          have E7 := hide (drawn_set1 (i := 1) (a := .string R6) E4.out (show w.heap.size ≤ w1.heap.size by omega) hpw)
          obtain ⟨-, k2, k3, k4, k5, k6, k7⟩ := HH4.out
          clear HH4 HZ4 E4 HD4 h0 n0
          obtain ⟨y1, y2, y3, y4, y5, y6, y7⟩ := HH7.out
          obtain ⟨z1, z2, z3, z4, z5, z6, z7⟩ := HZ7.out
          have T := hide (HAt.set (s' := s) (r' := R6) (c' := c) HZ7.out)
          have EF := hide (drawn_set (a := .string s) (b := .string R6) (d := .int .i64 c) E7.out (Nat.le_refl w.heap.size) hpw)
          have BD : Hid ((s).size ≤ 1000 ∧ (R6).size ≤ 2000 ∧ -1000000000 ≤ c ∧ c ≤ 3000000000) := ⟨by omega, hsz6, by omega, by omega⟩
          clear HH7 HZ7 E7 z1 y1
          go_wp2
          generalize (((w4.setCell ⟨w1.heap.size, 1, none⟩ (.string R6)).setCell ⟨w.heap.size, 0, none⟩ (.string s)).setCell ⟨w.heap.size, 1, none⟩ (.string R6)).setCell ⟨w.heap.size, 2, none⟩ (.int .i64 c) = wF at T EF
          obtain ⟨-, q0, q1, q2, -⟩ := T.out
          refine bodyPost_ret (v := .agg #[.string s, .string R6, .int .i64 c]) (by simp [results, Tryd.results31, go_sem, q0, q1, q2]) rfl ⟨_, _, _, rfl, BD.out, EF.out⟩
        · have n1 : (x4 == 1) = false := by rw [beq_eq_false_iff_ne]; exact h1
          by_cases h2 : x4 = 2
          · subst h2
            clear h0 h1 n0 n1
            obtain ⟨k1, k2, k3, k4, k5, k6, k7⟩ := HH4.out
            have HP : Hid (Calls Tryd.prog 39 #[.pointer (some ⟨p, 0, none⟩), .slice (some ⟨w4.heap.size, 0, none⟩) 4 4] (w4.drew.alloc (.cells #[.int .i64 64, .int .i64 (-64), .int .i64 1, .int .i64 1000000000] 3)) fun e w5 => ∃ x : Int, e = .returned (.int .i64 x) ∧ (-64 ≤ x ∧ x ≤ 1000000000) ∧ (w5.cell? ⟨w1.heap.size, 0, none⟩ = some (.string s) ∧ w5.cell? ⟨w1.heap.size, 1, none⟩ = some (.string r) ∧ w5.cell? ⟨w1.heap.size, 2, none⟩ = some (.int .i64 c)) ∧ (w5.frozen? ⟨w1.heap.size, 0, none⟩ = false ∧ w5.frozen? ⟨w1.heap.size, 1, none⟩ = false ∧ w5.frozen? ⟨w1.heap.size, 2, none⟩ = false) ∧ Hid (HAt w5 w1.heap.size s r c) ∧ Hid (HAt w5 w.heap.size ⟨#[]⟩ ⟨#[]⟩ 0) ∧ Hid (Drawn w w5 p ad len cap)) := by
              have hbA : Below w4.heap.size w4 (w4.drew.alloc (.cells #[.int .i64 64, .int .i64 (-64), .int .i64 1, .int .i64 1000000000] 3)) := (Below.refl _ _).drew.alloc (Nat.le_refl _) _
              have Ea : Drawn w (w4.drew.alloc (.cells #[.int .i64 64, .int .i64 (-64), .int .i64 1, .int .i64 1000000000] 3)) p ad len cap := E4.out.below (hbA.mono hs4) hpw
              refine (pickIn_any w4.heap.size [64, -64, 1, 1000000000] p ad len cap B _ (by simp) (by simp) (by omega) ?_ hl Ea.2 (HD4.out.on (hbA.mono (show B ≤ w4.heap.size by omega)) (Nat.le_refl _)) hB).mono ?_
              · intro j hj
                have : j < 4 := by simpa using hj
                match j, this with
                | 0, _ => (show (w4.drew.alloc _).cell? ⟨w4.drew.heap.size, 0, none⟩ = _); rw [World.cell?_alloc_mark]; rfl
                | 1, _ => (show (w4.drew.alloc _).cell? ⟨w4.drew.heap.size, 1, none⟩ = _); rw [World.cell?_alloc_mark]; rfl
                | 2, _ => (show (w4.drew.alloc _).cell? ⟨w4.drew.heap.size, 2, none⟩ = _); rw [World.cell?_alloc_mark]; rfl
                | 3, _ => (show (w4.drew.alloc _).cell? ⟨w4.drew.heap.size, 3, none⟩ = _); rw [World.cell?_alloc_mark]; rfl
                | j + 4, h => omega
              · rintro e w5 ⟨x, rfl, hx, D5⟩
                have hx0 : -64 ≤ x ∧ x ≤ 1000000000 := by have := hx.out; simp at this; omega
                have h5 := HAt.grown (HH4.out.below hbA k1) D5.1 hnp
                have h6 := HAt.grown (HZ4.out.below hbA HZ4.out.1) D5.1 hnp2
                exact ⟨x, rfl, hx0, ⟨h5.2.1, h5.2.2.1, h5.2.2.2.1⟩, ⟨h5.2.2.2.2.1, h5.2.2.2.2.2.1, h5.2.2.2.2.2.2⟩, h5, h6, Ea.trans D5⟩
            clear HH4 HZ4 E4 HD4
            go_wp2
            go_region_with (
              (go_at_call 39; refine HP.out.mono ?_; rintro e w5 ⟨x, rfl, hx5, ⟨m1, m2, m3⟩, ⟨f1, f2, f3⟩, HH5, HZ5, E5⟩; have wx : IntKind.i64.wrap (c + x) = c + x := by (rw [IntKind.wrap_i64]; omega)))
            all_goals
              have HH7 := hide (HH5.out.set1.2.2 (c + x))
              have HZ7 := hide (HZ5.out.far1 (i := 2) (a := .int .i64 (c + x)) hne)
              have E7 := hide (drawn_set1 (i := 2) (a := .int .i64 (c + x)) E5.out (show w.heap.size ≤ w1.heap.size by omega) hpw)
              obtain ⟨C6, hC6⟩ : ∃ C6, c + x = C6 := ⟨_, rfl⟩
              have hc6 : -1000000000 ≤ C6 ∧ C6 ≤ 3000000000 := by omega
              rw [hC6] at HH7 HZ7 E7 ⊢
              clear HH5 HZ5 E5 HP m1 m2 m3 f1 f2 f3 k1 k2 k3 k4 k5 k6 k7 wx hC6
              obtain ⟨y1, y2, y3, y4, y5, y6, y7⟩ := HH7.out
              obtain ⟨z1, z2, z3, z4, z5, z6, z7⟩ := HZ7.out
              have T := hide (HAt.set (s' := s) (r' := r) (c' := C6) HZ7.out)
              have EF := hide (drawn_set (a := .string s) (b := .string r) (d := .int .i64 C6) E7.out (Nat.le_refl w.heap.size) hpw)
              have BD : Hid ((s).size ≤ 1000 ∧ (r).size ≤ 2000 ∧ -1000000000 ≤ C6 ∧ C6 ≤ 3000000000) := ⟨by omega, by omega, hc6.1, hc6.2⟩
              clear HH7 HZ7 E7 z1 y1
              go_wp2
              generalize (((w5.setCell ⟨w1.heap.size, 2, none⟩ (.int .i64 C6)).setCell ⟨w.heap.size, 0, none⟩ (.string s)).setCell ⟨w.heap.size, 1, none⟩ (.string r)).setCell ⟨w.heap.size, 2, none⟩ (.int .i64 C6) = wF at T EF
              obtain ⟨-, q0, q1, q2, -⟩ := T.out
              refine bodyPost_ret (v := .agg #[.string s, .string r, .int .i64 C6]) (by simp [results, Tryd.results31, go_sem, q0, q1, q2]) rfl ⟨_, _, _, rfl, BD.out, EF.out⟩
          · have n2 : (x4 == 2) = false := by rw [beq_eq_false_iff_ne]; exact h2
            by_cases h3 : x4 = 3
            · subst h3
              clear h0 h1 h2 n0 n1 n2
              go_wp2_with fail
              refine (long_int' 64 65 _ (by omega) (by omega) (by omega) (by omega)).mono ?_
              rintro e w5 ⟨t5, rfl, ht5, hb5⟩
              have hs45 := hb5.size
              have HH5 := hide (HH4.out.below hb5 HH4.out.1)
              have HZ5 := hide (HZ4.out.below hb5 HZ4.out.1)
              have E5 := hide (E4.out.below (hb5.mono hs4) hpw)
              have hsz6 : (⟨t5.toArray⟩ : ByteArray).size ≤ 2000 := by show t5.toArray.size ≤ 2000; simp; omega
              generalize (⟨t5.toArray⟩ : ByteArray) = R6 at hsz6
              have HH6 := hide (HH5.out.set1.2.1 R6)
              have HH7 := hide (HH6.out.set1.2.2 64)
              have HZ7 := hide ((HZ5.out.far1 (i := 1) (a := .string R6) hne).far1 (i := 2) (a := .int .i64 64) hne)
              have E7 := hide (drawn_set1 (i := 2) (a := .int .i64 64) (drawn_set1 (i := 1) (a := .string R6) E5.out (show w.heap.size ≤ w1.heap.size by omega) hpw) (show w.heap.size ≤ w1.heap.size by omega) hpw)
              obtain ⟨-, k2, k3, k4, k5, k6, k7⟩ := HH5.out
              obtain ⟨-, l2, l3, l4, l5, l6, l7⟩ := HH6.out
              clear HH4 HZ4 E4 HD4 HH5 HZ5 E5 HH6 hb5
              obtain ⟨y1, y2, y3, y4, y5, y6, y7⟩ := HH7.out
              obtain ⟨z1, z2, z3, z4, z5, z6, z7⟩ := HZ7.out
              have T := hide (HAt.set (s' := s) (r' := R6) (c' := 64) HZ7.out)
              have EF := hide (drawn_set (a := .string s) (b := .string R6) (d := .int .i64 64) E7.out (Nat.le_refl w.heap.size) hpw)
              have BD : Hid ((s).size ≤ 1000 ∧ (R6).size ≤ 2000 ∧ (-1000000000 : Int) ≤ 64 ∧ (64 : Int) ≤ 3000000000) := ⟨by omega, hsz6, by omega, by omega⟩
              clear HH7 HZ7 E7 z1 y1
              go_wp2
              generalize ((((w5.setCell ⟨w1.heap.size, 1, none⟩ (.string R6)).setCell ⟨w1.heap.size, 2, none⟩ (.int .i64 64)).setCell ⟨w.heap.size, 0, none⟩ (.string s)).setCell ⟨w.heap.size, 1, none⟩ (.string R6)).setCell ⟨w.heap.size, 2, none⟩ (.int .i64 64) = wF at T EF
              obtain ⟨-, q0, q1, q2, -⟩ := T.out
              refine bodyPost_ret (v := .agg #[.string s, .string R6, .int .i64 64]) (by simp [results, Tryd.results31, go_sem, q0, q1, q2]) rfl ⟨_, _, _, rfl, BD.out, EF.out⟩
            · have n3 : (x4 == 3) = false := by rw [beq_eq_false_iff_ne]; exact h3
              clear h0 h1 h2 h3
              obtain ⟨-, k2, k3, k4, k5, k6, k7⟩ := HH4.out
              obtain ⟨-, z2, z3, z4, z5, z6, z7⟩ := HZ4.out
              have T := hide (HAt.set (s' := s) (r' := r) (c' := c) HZ4.out)
              have EF := hide (drawn_set (a := .string s) (b := .string r) (d := .int .i64 c) E4.out (Nat.le_refl w.heap.size) hpw)
              have BD : Hid ((s).size ≤ 1000 ∧ (r).size ≤ 2000 ∧ (-1000000000 : Int) ≤ c ∧ c ≤ 3000000000) := ⟨by omega, by omega, by omega, by omega⟩
              clear HH4 HZ4 E4 HD4
              go_wp2
              generalize ((w4.setCell ⟨w.heap.size, 0, none⟩ (.string s)).setCell ⟨w.heap.size, 1, none⟩ (.string r)).setCell ⟨w.heap.size, 2, none⟩ (.int .i64 c) = wF at T EF
              obtain ⟨-, q0, q1, q2, -⟩ := T.out
              refine bodyPost_ret (v := .agg #[.string s, .string r, .int .i64 c]) (by simp [results, Tryd.results31, go_sem, q0, q1, q2]) rfl ⟨_, _, _, rfl, BD.out, EF.out⟩
end Go.Proofs.YtaolinlginloaabDoor
