/-
  IRead; Math
-/
import Derived.Test.YtcbhbjglgkaabaoDoorPk13
import Derived.Test.YtcbhbjglgkaabaoDoorFOf
/-
  impl.ReadLeaf.
-/
namespace Go.Proofs.YtcbhbjglgkaabaoDoor
open Go.RowKit

set_option maxHeartbeats 400000 in
set_option maxRecDepth 100000 in
theorem iread_any (v : Value) (rs : List Rw) (lo hi : Nat) (b leaf : Int) (w : World) (hl : rs.length ≤ 1048576) (hll : ∀ r ∈ rs, r.2.2.2.length ≤ 1048576) (htx : TxB rs) (hh : hi ≤ w.heap.size) (ha : FlashIn w lo hi v rs) :
    Calls Tryd.prog 57 #[.agg #[v], .int .i64 b, .int .i64 leaf] w fun e w' => e = .returned (.tuple #[.string (readF (rs.map tellOf) b leaf).1, .bool (readF (rs.map tellOf) b leaf).2]) ∧ Below w.heap.size w w' := by
  have h1 := ha.1
  obtain ⟨vd, vcap, rfl, -, -, a3⟩ := frow_form h1
  have A3 := hide a3
  have HLL := hide hll
  have HTX := hide htx
  have HB0 := hide ((Below.refl w.heap.size w).alloc (Nat.le_refl _) (.cells #[.slice vd rs.length vcap] 42))
  have HA := hide (ha.below HB0.out hh)
  clear ha hll h1 a3 htx
  go_enter Tryd.func57, Tryd.ntmps57
  go_wp2_with fail
  generalize w.alloc (.cells #[.slice vd rs.length vcap] 42) = w2 at HB0 HA ⊢
  by_cases hb : 0 ≤ b ∧ b ≤ (rs.length : Int) - 1
  · obtain ⟨k, rfl⟩ : ∃ k : Nat, b = k := ⟨b.toNat, by omega⟩
    have hkl : k < rs.length := by omega
    obtain ⟨g, rfl, hg1, hg⟩ := A3.out (by omega)
    refine (iat_in g rs.length vcap k _ hl hkl).mono ?_
    rintro e w3 ⟨rfl, b3⟩
    have HA3 := hide (HA.out.kept (w' := w3) (fun i _ hi2 => b3.block i (by have := HB0.out.size; omega)))
    have HB3 := hide (HB0.out.trans (b3.mono HB0.out.size))
    have hr : rs[k]? = some rs[k] := List.getElem?_eq_getElem hkl
    generalize rs[k] = r at hr
    have hmem := List.mem_of_getElem? hr
    have hrl := HLL.out r hmem
    have htx := HTX.out r hmem
    have hlf := HA3.out.2.2.1 r hmem
    obtain ⟨-, -, c3⟩ := kown_cells (k := k) (t := cellOf r) HA3.out.1 (by rw [List.getElem?_map, hr]; rfl)
    have HBR : Hid ((rs.map tellOf)[k]? = some (tellOf r)) := by show _ = _; rw [List.getElem?_map, hr]; rfl
    obtain ⟨x, y, u, ls⟩ := r
    simp only [cellOf] at c3
    simp only at hlf hrl htx
    obtain ⟨ld, capl, rfl, -, -, l3⟩ := frow_form hlf.1
    have L3 := hide l3
    have HLF := hide hlf
    have HTX2 := hide htx
    clear hr hmem hlf l3 hb b3 htx
    by_cases hf : 0 ≤ leaf ∧ leaf ≤ (ls.length : Int) - 1
    · obtain ⟨j, rfl⟩ : ∃ j : Nat, leaf = j := ⟨leaf.toNat, by omega⟩
      have hjl : j < ls.length := by omega
      obtain ⟨z, t, ht⟩ : ∃ z t, ls[j]? = some (z, t) := ⟨ls[j].1, ls[j].2, List.getElem?_eq_getElem hjl⟩
      obtain ⟨gl, rfl, -, -⟩ := L3.out (by omega)
      obtain ⟨d1, d2⟩ := lown_cells HLF.out.1 ht
      simp only at d1 d2
      have hts := HTX2.out _ (List.mem_of_getElem? ht)
      simp only at hts
      have RI := hide (read_in (t := (z, t)) HBR.out ht)
      clear ht hf
      go_wp2_with fail
      refine (ilat_in g (k * 3) gl ls.length capl j _ hrl hjl c3).mono ?_
      rintro e w4 ⟨rfl, rfl⟩
      by_cases hz : z = 1
      · have HP : Hid (readF (rs.map tellOf) (k : Int) (j : Int) = (t, true)) := RI.out.1 hz
        have e1 : (z != 1) = false := by simp [hz]
        clear hz
        go_wp2_with fail
        refine (fclone_any t _ hts).mono ?_
        rintro e w5 ⟨rfl, b5⟩
        have HB5 := hide (HB3.out.trans (b5.mono HB3.out.size))
        clear b5
        go_wp2
        go_ret2
        exact ⟨by rw [HP.out]; rfl, HB5.out⟩
      · have HP : Hid (readF (rs.map tellOf) (k : Int) (j : Int) = (⟨#[]⟩, false)) := RI.out.2 hz
        have e1 : (z != 1) = true := by simp [hz]
        clear hz
        go_wp2
        go_ret2
        exact ⟨by rw [HP.out]; rfl, HB3.out⟩
    · have HP : Hid (readF (rs.map tellOf) (k : Int) leaf = (⟨#[]⟩, false)) := read_leaf_out HBR.out hf
      go_wp2_with fail
      refine (ilat_out g (k * 3) ls.length capl ld leaf _ hrl hf c3).mono ?_
      rintro e w4 ⟨rfl, rfl⟩
      clear hf
      go_wp2
      go_ret2
      exact ⟨by rw [HP.out]; rfl, HB3.out⟩
  · have HP : Hid (readF (rs.map tellOf) b leaf = (⟨#[]⟩, false)) := read_out (by rw [List.length_map]; exact hb)
    refine (iat_out vd rs.length vcap b _ hl hb).mono ?_
    rintro e w3 ⟨rfl, b3⟩
    have HB3 := hide (HB0.out.trans (b3.mono HB0.out.size))
    clear hb b3
    go_wp2
    go_ret2
    exact ⟨by rw [HP.out]; rfl, HB3.out⟩
end Go.Proofs.YtcbhbjglgkaabaoDoor

/-
  Plain facts on numbers in bytes (seven bits a byte, the lowest first): no Go in them.
-/
namespace Go.Proofs.YtcbhbjglgkaabaoDoor.Words

/-- The bytes of a number, seven bits a byte, the lowest first; with fuel. -/
def varF : Nat → Nat → List UInt8
  | 0, n => [UInt8.ofNat n]
  | f + 1, n => if n < 128 then [UInt8.ofNat n] else UInt8.ofNat (n % 128 + 128) :: varF f (n / 128)

def varL (n : Nat) : List UInt8 := varF n n

theorem varF_fuel : ∀ (f g n : Nat), n ≤ f → n ≤ g → varF f n = varF g n := by
  intro f
  induction f with
  | zero =>
    intro g n hf hg
    have : n = 0 := by omega
    subst this
    cases g <;> simp [varF]
  | succ f ih =>
    intro g n hf hg
    cases g with
    | zero =>
      have : n = 0 := by omega
      subst this
      simp [varF]
    | succ g =>
      simp only [varF]
      split
      · rfl
      · rw [ih g (n / 128) (by omega) (by omega)]

theorem varL_low (n : Nat) (h : n < 128) : varL n = [UInt8.ofNat n] := by
  unfold varL
  cases n with
  | zero => rfl
  | succ n => simp [varF, h]

theorem varL_high (n : Nat) (h : 128 ≤ n) : varL n = UInt8.ofNat (n % 128 + 128) :: varL (n / 128) := by
  unfold varL
  cases n with
  | zero => omega
  | succ n =>
    rw [varF, if_neg (by omega)]
    rw [varF_fuel n ((n + 1) / 128) ((n + 1) / 128) (by omega) (Nat.le_refl _)]

theorem varL_len (n : Nat) (h : n < 9223372036854775808) : 0 < (varL n).length ∧ (varL n).length ≤ 9 := by
  have low : ∀ n, n < 128 → (varL n).length = 1 := fun n h => by rw [varL_low n h]; rfl
  have step : ∀ (k : Nat) (b : Nat), (∀ n, n < b → 0 < (varL n).length ∧ (varL n).length ≤ k) → 128 ≤ 128 * b → ∀ n, n < 128 * b → 0 < (varL n).length ∧ (varL n).length ≤ k + 1 := by
    intro k b ih _ n hn
    by_cases h1 : n < 128
    · rw [low n h1]; omega
    · rw [varL_high n (by omega), List.length_cons]
      have := ih (n / 128) (by omega)
      omega
  have h1 : ∀ n, n < 128 → 0 < (varL n).length ∧ (varL n).length ≤ 1 := fun n h => by rw [low n h]; omega
  have h2 := step 1 128 h1 (by omega)
  have h3 := step 2 (128 * 128) h2 (by omega)
  have h4 := step 3 (128 * (128 * 128)) h3 (by omega)
  have h5 := step 4 (128 * (128 * (128 * 128))) h4 (by omega)
  have h6 := step 5 (128 * (128 * (128 * (128 * 128)))) h5 (by omega)
  have h7 := step 6 (128 * (128 * (128 * (128 * (128 * 128))))) h6 (by omega)
  have h8 := step 7 (128 * (128 * (128 * (128 * (128 * (128 * 128)))))) h7 (by omega)
  have h9 := step 8 (128 * (128 * (128 * (128 * (128 * (128 * (128 * 128))))))) h8 (by omega)
  exact h9 n (by omega)

/-- What a run of bytes is worth. -/
def valL : List UInt8 → Nat
  | [] => 0
  | c :: r => c.toNat % 128 + 128 * valL r

theorem valL_snoc (l : List UInt8) (c : UInt8) : valL (l ++ [c]) = valL l + c.toNat % 128 * 128 ^ l.length := by
  induction l with
  | nil => simp [valL]
  | cons a l ih =>
    simp only [List.cons_append, valL, ih, List.length_cons, Nat.pow_succ]
    rw [Nat.mul_add, ← Nat.add_assoc]
    congr 1
    rw [Nat.mul_left_comm, Nat.mul_comm 128]

theorem valL_lt (l : List UInt8) : valL l < 128 ^ l.length := by
  induction l with
  | nil => simp [valL]
  | cons a l ih =>
    simp only [valL, List.length_cons, Nat.pow_succ]
    omega

/-- The first bytes of a text that make a number: up to the first byte below 128, at most 'fuel' of them. -/
def scan : Nat → List UInt8 → Option (List UInt8)
  | 0, _ => none
  | _ + 1, [] => none
  | f + 1, c :: r => if c.toNat < 128 then some [c] else (scan f r).map (c :: ·)

/-- A run that ends below 128, all else of it at or above. -/
def Run (l : List UInt8) : Prop := ∃ p c, l = p ++ [c] ∧ c.toNat < 128 ∧ ∀ x ∈ p, 128 ≤ x.toNat

theorem ofNat_toNat (c : UInt8) : UInt8.ofNat c.toNat = c := by simp

theorem var_val : ∀ (p : List UInt8) (c : UInt8), c.toNat < 128 → (∀ x ∈ p, 128 ≤ x.toNat) →
    (varL (valL (p ++ [c])) = p ++ [c] ↔ ¬ (c.toNat = 0 ∧ p ≠ [])) ∧ (valL (p ++ [c]) = 0 → c.toNat = 0) := by
  intro p
  induction p with
  | nil =>
    intro c hc _
    have e : valL ([] ++ [c]) = c.toNat := by simp [valL]; omega
    rw [e, varL_low _ hc]
    simp
  | cons a p ih =>
    intro c hc hp
    have ha : 128 ≤ a.toNat := hp a (by simp)
    have ha2 : a.toNat < 256 := a.toNat_lt
    obtain ⟨i1, i2⟩ := ih c hc (fun x hx => hp x (by simp [hx]))
    have e : valL (a :: p ++ [c]) = a.toNat % 128 + 128 * valL (p ++ [c]) := rfl
    rw [e]
    refine ⟨?_, fun h => i2 (by omega)⟩
    by_cases hv : valL (p ++ [c]) = 0
    · have hc0 := i2 hv
      rw [hv, varL_low _ (by omega)]
      constructor
      · intro h
        have := congrArg List.length h
        simp at this
      · intro h
        exact absurd ⟨hc0, by simp⟩ h
    · rw [varL_high _ (by omega)]
      have e1 : (a.toNat % 128 + 128 * valL (p ++ [c])) % 128 + 128 = a.toNat := by omega
      have e2 : (a.toNat % 128 + 128 * valL (p ++ [c])) / 128 = valL (p ++ [c]) := by omega
      rw [e1, e2, ofNat_toNat]
      constructor
      · intro h hn
        have h' : varL (valL (p ++ [c])) = p ++ [c] := by simpa using h
        have := i1.1 h'
        by_cases hp0 : p = []
        · subst hp0
          have : valL [c] = 0 := by simp [valL, hn.1]
          exact hv this
        · exact this ⟨hn.1, hp0⟩
      · intro h
        have hc0 : ¬ c.toNat = 0 := fun h0 => h ⟨h0, by simp⟩
        have := i1.2 (fun hh => hc0 hh.1)
        rw [this]; rfl

/-- What ReadVar answers. -/
def readV (text : List UInt8) (at_ : Nat) : Option (Nat × Nat) :=
  match scan 5 (text.drop at_) with
  | none => none
  | some l => if valL l ≤ 1000000000 ∧ varL (valL l) = l then some (valL l, at_ + l.length) else none

theorem scan_pre : ∀ (p r : List UInt8) (f : Nat), (∀ x ∈ p, 128 ≤ x.toNat) → scan (p.length + f) (p ++ r) = (scan f r).map (p ++ ·) := by
  intro p
  induction p with
  | nil => intro r f _; simp
  | cons a p ih =>
    intro r f hp
    have ha := hp a (by simp)
    have e : (a :: p).length + f = (p.length + f) + 1 := by simp; omega
    rw [e, List.cons_append, scan, if_neg (by omega), ih r f (fun x hx => hp x (by simp [hx]))]
    cases scan f r <;> simp
end Go.Proofs.YtcbhbjglgkaabaoDoor.Words
