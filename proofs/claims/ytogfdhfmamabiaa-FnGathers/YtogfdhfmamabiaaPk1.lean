/-
  D2; D2o; D3q; DecI; Math
-/
import Derived.Test.YtogfdhfmamabiaaPk0
/-
  The draw of a number below a bound.
-/
namespace Go.Proofs.Ytogfdhfmamabiaa
open Go.RowKit

theorem Drawn.below {w w1 w2 : World} {p : Nat} {ad : Option Addr} {len cap : Nat} (h : Drawn w w1 p ad len cap) (hb : Below w.heap.size w1 w2) (hp : p < w.heap.size) : Drawn w w2 p ad len cap :=
  ⟨⟨hb.os.trans h.1.os, hb.tape.trans h.1.tape, hb.output.trans h.1.output, Nat.le_trans h.1.size hb.size, fun j hj hr => (hb.block j hj).trans (h.1.block j hj hr)⟩, h.2.below hb hp⟩

set_option maxHeartbeats 400000 in
theorem below_any (n : Int) (p : Nat) (ad : Option Addr) (len cap B : Nat) (w : World) (hn : n ≤ 1000000000000) (hl : len ≤ 1048576) (hc : CurIn w p ad len cap) (hd : CodeIn w ad len B) (hB : B ≤ p) :
    Calls Try.prog 33 #[.pointer (some ⟨p, 0, none⟩), .int .i64 n] w fun e w' => ∃ x : Int, e = .returned (.int .i64 x) ∧ 0 ≤ x ∧ (0 < n → x < n) ∧ (n ≤ 0 → x = 0) ∧ Drawn w w' p ad len cap := by
  have hpw := hc.2.2.2.2.2
  have HC := hide hc
  have HD := hide hd
  clear hc hd
  by_cases h1 : n ≤ 0
  · go_enter Try.func33, Try.ntmps33
    go_wp2
    go_ret
    exact ⟨0, rfl, by omega, fun h => by omega, fun _ => rfl, Drawn.refl HC.out⟩
  · by_cases h2 : n ≤ 256
    · go_enter Try.func33, Try.ntmps33
      go_wp2_with fail
      refine (byte_any p ad len cap B _ hl HC.out HD.out hB).mono ?_
      rintro e w1 ⟨x, rfl, x0, x1, g1, c1⟩
      have D1 : Hid (Drawn w w1 p ad len cap) := ⟨g1, c1⟩
      clear g1 c1
      have m0 := Int.emod_nonneg x (show n ≠ 0 by omega)
      have m1 := Int.emod_lt_of_pos x (show 0 < n by omega)
      have nz : (n == 0) = false := by rw [beq_eq_false_iff_ne]; omega
      go_wp2
      go_ret
      exact ⟨x % n, rfl, m0, fun _ => m1, fun h => by omega, D1.out⟩
    · go_enter Try.func33, Try.ntmps33
      go_wp2_with fail
      refine (byte_any p ad len cap B _ hl HC.out HD.out hB).mono ?_
      rintro e w1 ⟨x, rfl, x0, x1, g1, c1⟩
      have D1 : Hid (Drawn w w1 p ad len cap) := ⟨g1, c1⟩
      have HD1 := hide (D1.out.code HD.out hB hpw)
      have hp1 := c1.2.2.2.2.2
      clear g1 c1 HD HC
      go_wp2_with fail
      refine (byte_any p ad len cap B _ hl D1.out.2 HD1.out hB).mono ?_
      rintro e w2 ⟨y, rfl, y0, y1, g1, c1⟩
      have D2 : Hid (Drawn w1 w2 p ad len cap) := ⟨g1, c1⟩
      have HD2 := hide (D2.out.code HD1.out hB hp1)
      have hp2 := c1.2.2.2.2.2
      clear g1 c1 HD1
      go_wp2_with fail
      refine (byte_any p ad len cap B _ hl D2.out.2 HD2.out hB).mono ?_
      rintro e w3 ⟨z, rfl, z0, z1, g1, c1⟩
      have D3 : Hid (Drawn w2 w3 p ad len cap) := ⟨g1, c1⟩
      have HD3 := hide (D3.out.code HD2.out hB hp2)
      clear g1 c1 HD2
      go_wp2_with fail
      refine (byte_any p ad len cap B _ hl D3.out.2 HD3.out hB).mono ?_
      rintro e w4 ⟨u, rfl, u0, u1, g1, c1⟩
      have D4 : Hid (Drawn w3 w4 p ad len cap) := ⟨g1, c1⟩
      have DD := hide (((D1.out.trans D2.out).trans D3.out).trans D4.out)
      clear g1 c1 HD3 D1 D2 D3 D4
      have m0 := Int.emod_nonneg (x * 16777216 + y * 65536 + z * 256 + u) (show n ≠ 0 by omega)
      have m1 := Int.emod_lt_of_pos (x * 16777216 + y * 65536 + z * 256 + u) (show 0 < n by omega)
      have nz : (n == 0) = false := by rw [beq_eq_false_iff_ne]; omega
      go_wp2
      go_ret
      exact ⟨(x * 16777216 + y * 65536 + z * 256 + u) % n, rfl, m0, fun _ => m1, fun h => by omega, DD.out⟩
end Go.Proofs.Ytogfdhfmamabiaa

/-
  The draw of one time in so many.
-/
namespace Go.Proofs.Ytogfdhfmamabiaa
open Go.RowKit

set_option maxHeartbeats 400000 in
theorem once_any (n : Int) (p : Nat) (ad : Option Addr) (len cap B : Nat) (w : World) (hn : n ≤ 1000000000000) (hl : len ≤ 1048576) (hc : CurIn w p ad len cap) (hd : CodeIn w ad len B) (hB : B ≤ p) :
    Calls Try.prog 32 #[.pointer (some ⟨p, 0, none⟩), .int .i64 n] w fun e w' => ∃ b : Bool, e = .returned (.bool b) ∧ Drawn w w' p ad len cap := by
  have HC := hide hc
  have HD := hide hd
  clear hc hd
  go_enter Try.func32, Try.ntmps32
  go_wp2_with fail
  refine (below_any n p ad len cap B _ hn hl HC.out HD.out hB).mono ?_
  rintro e w1 ⟨x, rfl, x0, _, _, D1⟩
  have HD1 := hide D1
  clear D1
  go_wp2
  all_goals
    go_ret
    exact ⟨_, rfl, HD1.out⟩
end Go.Proofs.Ytogfdhfmamabiaa

/-
  The draw of one of some numbers: which it may be.
-/
namespace Go.Proofs.Ytogfdhfmamabiaa
open Go.RowKit

set_option maxHeartbeats 400000 in
theorem pickIn_any (g : Nat) (ls : List Int) (p : Nat) (ad : Option Addr) (len cap B : Nat) (w : World) (h0 : 0 < ls.length) (h1 : ls.length ≤ 1000) (hg : g ≠ p)
    (hcells : ∀ j, j < ls.length → w.cell? ⟨g, j, none⟩ = some (.int .i64 (ls.getD j 0))) (hl : len ≤ 1048576) (hc : CurIn w p ad len cap) (hd : CodeIn w ad len B) (hB : B ≤ p) :
    Calls Try.prog 74 #[.pointer (some ⟨p, 0, none⟩), .slice (some ⟨g, 0, none⟩) ls.length ls.length] w fun e w' => ∃ x : Int, e = .returned (.int .i64 x) ∧ Hid (x ∈ ls) ∧ Drawn w w' p ad len cap := by
  have HC := hide hc
  have HD := hide hd
  have HL := hide hcells
  clear hc hd hcells
  go_enter Try.func74, Try.ntmps74
  go_wp2_with fail
  refine (below_any (ls.length : Int) p ad len cap B _ (by omega) hl HC.out HD.out hB).mono ?_
  rintro e w1 ⟨x, rfl, x0, x1, _, D1⟩
  have x2 := x1 (by omega)
  obtain ⟨j, rfl⟩ := Int.eq_ofNat_of_zero_le x0
  have hcw := HL.out j (by omega)
  have hgw : g < w.heap.size := World.block_lt_of_cell? w _ hcw
  have hc1 : w1.cell? ⟨g, j, none⟩ = some (.int .i64 (ls.getD j 0)) := by
    rw [World.cell?_of_block (w := w) (D1.1.block g hgw (by simpa using hg))]; exact hcw
  have hmem : Hid (ls.getD j 0 ∈ ls) := by
    show _ ∈ _
    rw [List.getD_eq_getElem?_getD, List.getElem?_eq_getElem (by omega)]
    exact List.getElem_mem _
  obtain ⟨y, hy⟩ : ∃ y, ls.getD j 0 = y := ⟨_, rfl⟩
  rw [hy] at hc1 hmem
  have HD1 := hide D1
  clear D1 hcw hy x1
  go_wp2
  go_ret
  exact ⟨y, rfl, hmem, HD1.out⟩
end Go.Proofs.Ytogfdhfmamabiaa

/-
  What is decided, whatever decides it.
-/
namespace Go.Proofs.Ytogfdhfmamabiaa
theorem dcY {p : Prop} {d : Decidable p} (h : p) : @decide p d = true := decide_eq_true h
theorem dcN {p : Prop} {d : Decidable p} (h : ¬ p) : @decide p d = false := decide_eq_false h
theorem dcE {p q : Prop} {d : Decidable p} {e : Decidable q} (h : p ↔ q) : @decide p d = @decide q e := decide_eq_decide.2 h
theorem dcT {p : Prop} {d : Decidable p} : (@decide p d = true) = p := decide_eq_true_eq
theorem dcO {p : Prop} {d : Decidable p} (h : @decide p d = true) : p := of_decide_eq_true h
theorem dcF {p : Prop} {d : Decidable p} (h : @decide p d = false) : ¬ p := of_decide_eq_false h
end Go.Proofs.Ytogfdhfmamabiaa

/-
  Plain facts on numbers in bytes (seven bits a byte, the lowest first): no Go in them.
-/
namespace Go.Proofs.Ytogfdhfmamabiaa.Words

/-- The bytes of a number, seven bits a byte, the lowest first; with fuel. -/
def varF : Nat → Nat → List UInt8
  | 0, n => [UInt8.ofNat n]
  | f + 1, n => if n < 128 then [UInt8.ofNat n] else UInt8.ofNat (n % 128 + 128) :: varF f (n / 128)

def varL (n : Nat) : List UInt8 := varF n n

theorem varF_fuel : ∀ (f g n : Nat), n ≤ f → n ≤ g → varF f n = varF g n := by
  intro f
  induction f with
  | zero =>
    intro g n hf hg
    have : n = 0 := by omega
    subst this
    cases g <;> simp [varF]
  | succ f ih =>
    intro g n hf hg
    cases g with
    | zero =>
      have : n = 0 := by omega
      subst this
      simp [varF]
    | succ g =>
      simp only [varF]
      split
      · rfl
      · rw [ih g (n / 128) (by omega) (by omega)]

theorem varL_low (n : Nat) (h : n < 128) : varL n = [UInt8.ofNat n] := by
  unfold varL
  cases n with
  | zero => rfl
  | succ n => simp [varF, h]

theorem varL_high (n : Nat) (h : 128 ≤ n) : varL n = UInt8.ofNat (n % 128 + 128) :: varL (n / 128) := by
  unfold varL
  cases n with
  | zero => omega
  | succ n =>
    rw [varF, if_neg (by omega)]
    rw [varF_fuel n ((n + 1) / 128) ((n + 1) / 128) (by omega) (Nat.le_refl _)]

theorem varL_len (n : Nat) (h : n < 9223372036854775808) : 0 < (varL n).length ∧ (varL n).length ≤ 9 := by
  have low : ∀ n, n < 128 → (varL n).length = 1 := fun n h => by rw [varL_low n h]; rfl
  have step : ∀ (k : Nat) (b : Nat), (∀ n, n < b → 0 < (varL n).length ∧ (varL n).length ≤ k) → 128 ≤ 128 * b → ∀ n, n < 128 * b → 0 < (varL n).length ∧ (varL n).length ≤ k + 1 := by
    intro k b ih _ n hn
    by_cases h1 : n < 128
    · rw [low n h1]; omega
    · rw [varL_high n (by omega), List.length_cons]
      have := ih (n / 128) (by omega)
      omega
  have h1 : ∀ n, n < 128 → 0 < (varL n).length ∧ (varL n).length ≤ 1 := fun n h => by rw [low n h]; omega
  have h2 := step 1 128 h1 (by omega)
  have h3 := step 2 (128 * 128) h2 (by omega)
  have h4 := step 3 (128 * (128 * 128)) h3 (by omega)
  have h5 := step 4 (128 * (128 * (128 * 128))) h4 (by omega)
  have h6 := step 5 (128 * (128 * (128 * (128 * 128)))) h5 (by omega)
  have h7 := step 6 (128 * (128 * (128 * (128 * (128 * 128))))) h6 (by omega)
  have h8 := step 7 (128 * (128 * (128 * (128 * (128 * (128 * 128)))))) h7 (by omega)
  have h9 := step 8 (128 * (128 * (128 * (128 * (128 * (128 * (128 * 128))))))) h8 (by omega)
  exact h9 n (by omega)

/-- What a run of bytes is worth. -/
def valL : List UInt8 → Nat
  | [] => 0
  | c :: r => c.toNat % 128 + 128 * valL r

theorem valL_snoc (l : List UInt8) (c : UInt8) : valL (l ++ [c]) = valL l + c.toNat % 128 * 128 ^ l.length := by
  induction l with
  | nil => simp [valL]
  | cons a l ih =>
    simp only [List.cons_append, valL, ih, List.length_cons, Nat.pow_succ]
    rw [Nat.mul_add, ← Nat.add_assoc]
    congr 1
    rw [Nat.mul_left_comm, Nat.mul_comm 128]

theorem valL_lt (l : List UInt8) : valL l < 128 ^ l.length := by
  induction l with
  | nil => simp [valL]
  | cons a l ih =>
    simp only [valL, List.length_cons, Nat.pow_succ]
    omega

/-- The first bytes of a text that make a number: up to the first byte below 128, at most 'fuel' of them. -/
def scan : Nat → List UInt8 → Option (List UInt8)
  | 0, _ => none
  | _ + 1, [] => none
  | f + 1, c :: r => if c.toNat < 128 then some [c] else (scan f r).map (c :: ·)

/-- A run that ends below 128, all else of it at or above. -/
def Run (l : List UInt8) : Prop := ∃ p c, l = p ++ [c] ∧ c.toNat < 128 ∧ ∀ x ∈ p, 128 ≤ x.toNat

theorem ofNat_toNat (c : UInt8) : UInt8.ofNat c.toNat = c := by simp

theorem var_val : ∀ (p : List UInt8) (c : UInt8), c.toNat < 128 → (∀ x ∈ p, 128 ≤ x.toNat) →
    (varL (valL (p ++ [c])) = p ++ [c] ↔ ¬ (c.toNat = 0 ∧ p ≠ [])) ∧ (valL (p ++ [c]) = 0 → c.toNat = 0) := by
  intro p
  induction p with
  | nil =>
    intro c hc _
    have e : valL ([] ++ [c]) = c.toNat := by simp [valL]; omega
    rw [e, varL_low _ hc]
    simp
  | cons a p ih =>
    intro c hc hp
    have ha : 128 ≤ a.toNat := hp a (by simp)
    have ha2 : a.toNat < 256 := a.toNat_lt
    obtain ⟨i1, i2⟩ := ih c hc (fun x hx => hp x (by simp [hx]))
    have e : valL (a :: p ++ [c]) = a.toNat % 128 + 128 * valL (p ++ [c]) := rfl
    rw [e]
    refine ⟨?_, fun h => i2 (by omega)⟩
    by_cases hv : valL (p ++ [c]) = 0
    · have hc0 := i2 hv
      rw [hv, varL_low _ (by omega)]
      constructor
      · intro h
        have := congrArg List.length h
        simp at this
      · intro h
        exact absurd ⟨hc0, by simp⟩ h
    · rw [varL_high _ (by omega)]
      have e1 : (a.toNat % 128 + 128 * valL (p ++ [c])) % 128 + 128 = a.toNat := by omega
      have e2 : (a.toNat % 128 + 128 * valL (p ++ [c])) / 128 = valL (p ++ [c]) := by omega
      rw [e1, e2, ofNat_toNat]
      constructor
      · intro h hn
        have h' : varL (valL (p ++ [c])) = p ++ [c] := by simpa using h
        have := i1.1 h'
        by_cases hp0 : p = []
        · subst hp0
          have : valL [c] = 0 := by simp [valL, hn.1]
          exact hv this
        · exact this ⟨hn.1, hp0⟩
      · intro h
        have hc0 : ¬ c.toNat = 0 := fun h0 => h ⟨h0, by simp⟩
        have := i1.2 (fun hh => hc0 hh.1)
        rw [this]; rfl

/-- What ReadVar answers. -/
def readV (text : List UInt8) (at_ : Nat) : Option (Nat × Nat) :=
  match scan 5 (text.drop at_) with
  | none => none
  | some l => if valL l ≤ 1000000000 ∧ varL (valL l) = l then some (valL l, at_ + l.length) else none

theorem scan_pre : ∀ (p r : List UInt8) (f : Nat), (∀ x ∈ p, 128 ≤ x.toNat) → scan (p.length + f) (p ++ r) = (scan f r).map (p ++ ·) := by
  intro p
  induction p with
  | nil => intro r f _; simp
  | cons a p ih =>
    intro r f hp
    have ha := hp a (by simp)
    have e : (a :: p).length + f = (p.length + f) + 1 := by simp; omega
    rw [e, List.cons_append, scan, if_neg (by omega), ih r f (fun x hx => hp x (by simp [hx]))]
    cases scan f r <;> simp
end Go.Proofs.Ytogfdhfmamabiaa.Words
