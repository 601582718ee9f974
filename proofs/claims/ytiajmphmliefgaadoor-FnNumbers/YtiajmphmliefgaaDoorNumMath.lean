/-
  Plain facts: what is written is read back: no Go in them.
-/
import Derived.Test.YtiajmphmliefgaaDoorMath2
import Derived.Test.YtiajmphmliefgaaDoorRdMath
namespace Go.Proofs.YtiajmphmliefgaaDoor.Words
open Go.Lib (decDigits itoa)

theorem scan_var : ∀ (f n : Nat) (r : List UInt8), n < 128 ^ (f + 1) → scan (f + 1) (varL n ++ r) = some (varL n) := by
  intro f
  induction f with
  | zero =>
    intro n r h
    have h1 : n < 128 := by simpa using h
    have e : (UInt8.ofNat n).toNat = n := by rw [UInt8.toNat_ofNat']; omega
    rw [varL_low n h1, List.singleton_append, scan, e, if_pos h1]
  | succ f ih =>
    intro n r h
    by_cases h1 : n < 128
    · have e : (UInt8.ofNat n).toNat = n := by rw [UInt8.toNat_ofNat']; omega
      rw [varL_low n h1, List.singleton_append, scan, e, if_pos h1]
    · have e : (UInt8.ofNat (n % 128 + 128)).toNat = n % 128 + 128 := by rw [UInt8.toNat_ofNat']; omega
      have h2 : n / 128 < 128 ^ (f + 1) := by
        rw [Nat.pow_succ] at h
        omega
      rw [varL_high n (by omega), List.cons_append, scan, e, if_neg (by omega), ih (n / 128) r h2]
      rfl
theorem val_var : ∀ (k n : Nat), n ≤ k → valL (varL n) = n := by
  intro k
  induction k with
  | zero =>
    intro n h
    have : n = 0 := by omega
    subst this
    rfl
  | succ k ih =>
    intro n h
    by_cases h1 : n < 128
    · have e : (UInt8.ofNat n).toNat = n := by rw [UInt8.toNat_ofNat']; omega
      rw [varL_low n h1, valL, valL, e]; omega
    · have e : (UInt8.ofNat (n % 128 + 128)).toNat = n % 128 + 128 := by rw [UInt8.toNat_ofNat']; omega
      rw [varL_high n (by omega), valL, e, ih (n / 128) (by omega)]; omega
theorem read_var (p r : List UInt8) (n : Nat) (hn : n ≤ 1000000000) : readV (p ++ varL n ++ r) p.length = some (n, p.length + (varL n).length) := by
  unfold readV
  rw [List.append_assoc, List.drop_left, scan_var 4 n r (by omega)]
  have e := val_var n n (Nat.le_refl _)
  simp only [e]
  rw [if_pos ⟨hn, trivial⟩]
theorem var_len5 (n : Nat) (hn : n ≤ 1000000000) : (varL n).length ≤ 9 := (varL_len n (by omega)).2

theorem fig_val (x : Nat) (h : x < 16) : val16 (fig x).toNat = x := by
  have := fig_nat x h
  exact (val_fig x (fig x).toNat (by omega) (by omega)).1 this.symm
theorem dv_snoc (l : List UInt8) (c : UInt8) : dv (l ++ [c]) = dv l * 10 + val16 c.toNat := by
  unfold dv vals
  rw [List.map_append, List.foldl_append]
  rfl
theorem fig_dec (x : Nat) (h : x < 10) : UInt8.ofNat (48 + x) = fig x := by
  unfold fig figZ
  rw [if_pos (by omega)]
  congr 1
theorem dec_read : ∀ (k u : Nat), u ≤ k → FigsOk 10 (decDigits u) ∧ dv (decDigits u) = u := by
  intro k
  induction k with
  | zero =>
    intro u h
    have : u = 0 := by omega
    subst this
    rw [dec_zero]
    refine ⟨?_, by decide⟩
    intro x hx
    rw [List.mem_singleton.1 hx]
    decide
  | succ k ih =>
    intro u h
    rw [decDigits]
    by_cases h10 : u < 10
    · rw [dif_pos h10, fig_dec u h10]
      refine ⟨?_, ?_⟩
      · intro x hx
        rw [List.mem_singleton.1 hx, fig_val u (by omega)]
        omega
      · have := dv_snoc [] (fig u)
        rw [List.nil_append] at this
        rw [this, fig_val u (by omega)]
        show (0 : Int) * 10 + u = u
        omega
    · obtain ⟨h1, h2⟩ := ih (u / 10) (by omega)
      rw [dif_neg h10, fig_dec (u % 10) (by omega)]
      refine ⟨?_, ?_⟩
      · intro x hx
        rcases List.mem_append.1 hx with hx | hx
        · exact h1 x hx
        · rw [List.mem_singleton.1 hx, fig_val (u % 10) (by omega)]
          omega
      · rw [dv_snoc, h2, fig_val (u % 10) (by omega)]
        omega
theorem dec_len : ∀ (k u : Nat), u < 10 ^ (k + 1) → (decDigits u).length ≤ k + 1 := by
  intro k
  induction k with
  | zero =>
    intro u h
    rw [decDigits, dif_pos (by simpa using h)]; simp
  | succ k ih =>
    intro u h
    rw [decDigits]
    by_cases h10 : u < 10
    · rw [dif_pos h10]; simp
    · rw [dif_neg h10, List.length_append]
      have := ih (u / 10) (by rw [Nat.pow_succ] at h; omega)
      simp; omega
theorem rd_back (n : Nat) (hn : n ≤ 1000000000) : RdOk (itoa n) ∧ dv (itoa n) = n ∧ (itoa n).length ≤ 10 := by
  rw [Go.Lib.itoa_nonneg]
  obtain ⟨h1, h2⟩ := dec_read n n (Nat.le_refl _)
  exact ⟨⟨h1, by rw [h2]; omega, by rw [h2, Go.Lib.itoa_nonneg]⟩, h2, dec_len 9 n (by omega)⟩

theorem byte_of_two (c : UInt8) : UInt8.ofNat (16 * (((c.toNat / 16 : Nat) : Int)) + ((c.toNat % 16 : Nat) : Int)).toNat = c := by
  have : (16 * (((c.toNat / 16 : Nat) : Int)) + ((c.toNat % 16 : Nat) : Int)).toNat = c.toNat := by omega
  rw [this]; simp
theorem hex_back (l : List UInt8) : FigsOk 16 (hexL l) ∧ unhexL (hexL l) = l := by
  induction l with
  | nil => exact ⟨fun x hx => by simp [hexL] at hx, rfl⟩
  | cons c l ih =>
    have hc : c.toNat < 256 := c.toNat_lt
    have v1 := fig_val (c.toNat / 16) (by omega)
    have v2 := fig_val (c.toNat % 16) (by omega)
    refine ⟨?_, ?_⟩
    · intro x hx
      rw [hexL] at hx
      rcases List.mem_cons.1 hx with hx | hx
      · rw [hx, v1]; omega
      · rcases List.mem_cons.1 hx with hx | hx
        · rw [hx, v2]; omega
        · exact ih.1 x hx
    · rw [hexL, unhexL, v1, v2, byte_of_two, ih.2]
end Go.Proofs.YtiajmphmliefgaaDoor.Words
