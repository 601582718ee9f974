/-
  Fla; LawT; DecI; Math
-/
import Derived.Test.YtaolinlginloaadDoorPk7
import Derived.Test.YtaolinlginloaadDoorTk
import Derived.Test.YtaolinlginloaadDoorLawB
import Derived.Test.YtaolinlginloaadDoorFMark
/-
  A flash among what a law holds.
-/
namespace Go.Proofs.YtaolinlginloaadDoor
open Go.RowKit

/-- A flash in blocks from lo on and below hi. -/
def Fla (lo hi : Nat) (v : Value) (bs : List Bk) : World → Prop := fun W => ∃ ss : List Rw, ss.map tellOf = bs ∧ FlashIn W lo hi v ss
theorem Fla.loc (lo hi : Nat) (v : Value) (bs : List Bk) : Loc lo hi (Fla lo hi v bs) := by
  rintro w w' hk ⟨ss, e, h⟩
  exact ⟨ss, e, h.kept hk⟩
theorem Fla.form {w : World} {lo hi : Nat} {v : Value} {bs : List Bk} (h : Fla lo hi v bs w) : ∃ ad cap, v = .slice ad bs.length cap ∧ (0 < bs.length → ∃ g, ad = some ⟨g, 0, none⟩ ∧ lo ≤ g ∧ g < hi) := by
  obtain ⟨ss, rfl, h⟩ := h
  obtain ⟨ad, cap, rfl, -, -, h3⟩ := frow_form h.1
  refine ⟨ad, cap, by simp, fun hp => ?_⟩
  obtain ⟨g, e, h4, -⟩ := h3 (by simpa using hp)
  subst e
  exact ⟨g, rfl, h4, h.2.1 g rfl⟩
/-- What a function answered joins what is held. -/
theorem Tk.fla {w wi wj : World} {hs : List Hold} {v : Value} {bs : List Bk} (T : Tk w wi hs) (hb : Below wi.heap.size wi wj) (f : FlashOf wj wi.heap.size v bs) : Tk w wj ((wi.heap.size, wj.heap.size, Fla wi.heap.size wj.heap.size v bs) :: hs) := T.add hb (Fla.loc _ _ _ _) f
theorem Fla.of {w : World} {lo hi B : Nat} {v : Value} {bs : List Bk} (h : Fla lo hi v bs w) (hh : hi ≤ w.heap.size) (hB : B ≤ lo) : FlashOf w B v bs := by
  obtain ⟨ss, e, h⟩ := h
  exact ⟨ss, e, (h.up hh).down hB⟩
/-- The cells of a block. -/
theorem Fla.cells {w : World} {lo hi g n cap k : Nat} {bs : List Bk} {b : Bk} (h : Fla lo hi (.slice (some ⟨g, 0, none⟩) n cap) bs w) (hb : bs[k]? = some b) : w.cell? ⟨g, k * 3, none⟩ = some (.bool b.1) ∧ w.cell? ⟨g, k * 3 + 1, none⟩ = some (.int .i64 b.2.1) ∧ ∃ u, w.cell? ⟨g, k * 3 + 2, none⟩ = some u ∧ w.ownsRow lo 65 2 u b.2.2.length (lcells b.2.2) := by
  obtain ⟨ss, rfl, h⟩ := h
  rw [List.getElem?_map] at hb
  cases hr : ss[k]? with
  | none => rw [hr] at hb; cases hb
  | some r =>
    rw [hr] at hb
    cases hb
    have hn : n = ss.length := by
      obtain ⟨ad, c, e, -⟩ := frow_form h.1
      injection e
    subst hn
    obtain ⟨c1, c2, c3⟩ := kown_cells (k := k) (t := cellOf r) h.1 (by rw [List.getElem?_map, hr]; rfl)
    exact ⟨c1, c2, _, c3, (h.2.2.1 r (List.mem_of_getElem? hr)).1⟩
/-- Numbers that lie in a block. -/
def Nums (g : Nat) (l : List Int) : World → Prop := fun W => ∀ j x, l[j]? = some x → W.cell? ⟨g, j, none⟩ = some (.int .i64 x)
theorem Nums.loc (g : Nat) (l : List Int) : Loc g (g + 1) (Nums g l) := fun w w' hk h j x hx => (World.cell?_of_block (hk g (Nat.le_refl _) (by omega))).trans (h j x hx)
end Go.Proofs.YtaolinlginloaadDoor

/-
  What the exact laws over flashes hold: the flash made of the argument, its like, and marked ones.
-/
namespace Go.Proofs.YtaolinlginloaadDoor
open Go.RowKit

theorem Fla.lens {w : World} {lo hi : Nat} {v : Value} {bs : List Bk} (h : Fla lo hi v bs w) (ho : Okk bs) : ∃ ss, ss.map tellOf = bs ∧ FlashIn w lo hi v ss ∧ ss.length ≤ 1048576 ∧ (∀ q ∈ ss, q.2.2.2.length ≤ 1048576) ∧ endB 1 ss = endK 1 bs := Inn.lens h ho
theorem to_tk {w wi : World} {hs : List Hold} {a : Option Addr} {len cap : Nat} {rs : List Rw} {bs : List Bk} (T : Tk w wi hs) (H : BkRow w a len rs) (hbs : rs.map tellOf = bs) (hl : len ≤ 1048576) (hll : ∀ q ∈ rs, q.2.2.2.length ≤ 1048576) :
    Calls Tryd.prog 7 #[.agg #[.slice a len cap]] wi fun e w' => ∃ ad c, e = .returned (.agg #[.slice ad bs.length c]) ∧ Tk w w' ((wi.heap.size, w'.heap.size, Fla wi.heap.size w'.heap.size (.slice ad bs.length c) bs) :: hs) ∧ wi.heap.size ≤ w'.heap.size := by
  refine (toFlash_any a len cap rs wi hl hll (H.below T.1)).mono ?_
  rintro e w2 ⟨v1, rfl, f1, b2⟩
  rw [hbs] at f1
  have T2 := T.add b2 (Fla.loc _ _ v1 bs) f1
  obtain ⟨ad1, cap1, rfl⟩ := f1.form
  exact ⟨ad1, cap1, rfl, T2, b2.size⟩
theorem eq_tk {w wi : World} {hs : List Hold} {u v : Value} {l1 h1 l2 h2 : Nat} {bs : List Bk} (T : Tk w wi hs) (n1 n2 : Nat) (ho : Okk bs) (e1 : hs[n1]? = some (l1, h1, Fla l1 h1 u bs)) (e2 : hs[n2]? = some (l2, h2, Fla l2 h2 v bs)) :
    Calls Tryd.prog 10 #[.agg #[u], .agg #[v]] wi fun e w' => e = .returned (.bool true) ∧ Tk w w' hs ∧ wi.heap.size ≤ w'.heap.size := by
  refine (eq_of _ _ bs _ _ _ _ wi ho ⟨T.hi n1 e1, T.get n1 e1⟩ ⟨T.hi n2 e2, T.get n2 e2⟩).mono ?_
  rintro e w2 ⟨rfl, b2⟩
  exact ⟨rfl, T.below b2, b2.size⟩
/-- A flash is marked: it is spoilt, and what lies apart from it stays. -/
theorem mark_tk {w wi : World} {hs hs' : List Hold} {u : Value} {l1 h1 : Nat} {bs : List Bk} (T : Tk w wi hs) (n1 : Nat) (ho : Okk bs) (e1 : hs[n1]? = some (l1, h1, Fla l1 h1 u bs)) (hlo : w.heap.size ≤ l1) (hh : ∀ x ∈ hs', x ∈ hs ∧ (x.2.1 ≤ l1 ∨ h1 ≤ x.1)) :
    Calls Tryd.prog 11 #[.agg #[u], .int .i64 1] wi fun e w' => e = .returned (.int .i64 ((endK 1 bs : Nat) : Int)) ∧ Tk w w' hs' ∧ wi.heap.size ≤ w'.heap.size := by
  obtain ⟨rs, e3, i1, l, ll, e2⟩ := (T.get n1 e1).lens ho
  refine (markFlash_any u rs l1 h1 wi l ll (by rw [e2]; exact ho.2.2) (T.hi n1 e1) i1).mono ?_
  rintro e w2 ⟨rfl, h2, h3⟩
  rw [e2]
  exact ⟨rfl, T.spoil (show Kept2 wi w2 (Apt l1 h1) from h3.out) hlo (T.hi n1 e1) hh, h3.out.2.2.2.1⟩
end Go.Proofs.YtaolinlginloaadDoor

/-
  What is decided, whatever decides it.
-/
namespace Go.Proofs.YtaolinlginloaadDoor
theorem dcY {p : Prop} {d : Decidable p} (h : p) : @decide p d = true := decide_eq_true h
theorem dcN {p : Prop} {d : Decidable p} (h : ¬ p) : @decide p d = false := decide_eq_false h
theorem dcE {p q : Prop} {d : Decidable p} {e : Decidable q} (h : p ↔ q) : @decide p d = @decide q e := decide_eq_decide.2 h
theorem dcT {p : Prop} {d : Decidable p} : (@decide p d = true) = p := decide_eq_true_eq
theorem dcO {p : Prop} {d : Decidable p} (h : @decide p d = true) : p := of_decide_eq_true h
theorem dcF {p : Prop} {d : Decidable p} (h : @decide p d = false) : ¬ p := of_decide_eq_false h
end Go.Proofs.YtaolinlginloaadDoor

/-
  Plain facts on numbers in bytes (seven bits a byte, the lowest first): no Go in them.
-/
namespace Go.Proofs.YtaolinlginloaadDoor.Words

/-- The bytes of a number, seven bits a byte, the lowest first; with fuel. -/
def varF : Nat → Nat → List UInt8
  | 0, n => [UInt8.ofNat n]
  | f + 1, n => if n < 128 then [UInt8.ofNat n] else UInt8.ofNat (n % 128 + 128) :: varF f (n / 128)

def varL (n : Nat) : List UInt8 := varF n n

theorem varF_fuel : ∀ (f g n : Nat), n ≤ f → n ≤ g → varF f n = varF g n := by
  intro f
  induction f with
  | zero =>
    intro g n hf hg
    have : n = 0 := by omega
    subst this
    cases g <;> simp [varF]
  | succ f ih =>
    intro g n hf hg
    cases g with
    | zero =>
      have : n = 0 := by omega
      subst this
      simp [varF]
    | succ g =>
      simp only [varF]
      split
      · rfl
      · rw [ih g (n / 128) (by omega) (by omega)]

theorem varL_low (n : Nat) (h : n < 128) : varL n = [UInt8.ofNat n] := by
  unfold varL
  cases n with
  | zero => rfl
  | succ n => simp [varF, h]

theorem varL_high (n : Nat) (h : 128 ≤ n) : varL n = UInt8.ofNat (n % 128 + 128) :: varL (n / 128) := by
  unfold varL
  cases n with
  | zero => omega
  | succ n =>
    rw [varF, if_neg (by omega)]
    rw [varF_fuel n ((n + 1) / 128) ((n + 1) / 128) (by omega) (Nat.le_refl _)]

theorem varL_len (n : Nat) (h : n < 9223372036854775808) : 0 < (varL n).length ∧ (varL n).length ≤ 9 := by
  have low : ∀ n, n < 128 → (varL n).length = 1 := fun n h => by rw [varL_low n h]; rfl
  have step : ∀ (k : Nat) (b : Nat), (∀ n, n < b → 0 < (varL n).length ∧ (varL n).length ≤ k) → 128 ≤ 128 * b → ∀ n, n < 128 * b → 0 < (varL n).length ∧ (varL n).length ≤ k + 1 := by
    intro k b ih _ n hn
    by_cases h1 : n < 128
    · rw [low n h1]; omega
    · rw [varL_high n (by omega), List.length_cons]
      have := ih (n / 128) (by omega)
      omega
  have h1 : ∀ n, n < 128 → 0 < (varL n).length ∧ (varL n).length ≤ 1 := fun n h => by rw [low n h]; omega
  have h2 := step 1 128 h1 (by omega)
  have h3 := step 2 (128 * 128) h2 (by omega)
  have h4 := step 3 (128 * (128 * 128)) h3 (by omega)
  have h5 := step 4 (128 * (128 * (128 * 128))) h4 (by omega)
  have h6 := step 5 (128 * (128 * (128 * (128 * 128)))) h5 (by omega)
  have h7 := step 6 (128 * (128 * (128 * (128 * (128 * 128))))) h6 (by omega)
  have h8 := step 7 (128 * (128 * (128 * (128 * (128 * (128 * 128)))))) h7 (by omega)
  have h9 := step 8 (128 * (128 * (128 * (128 * (128 * (128 * (128 * 128))))))) h8 (by omega)
  exact h9 n (by omega)

/-- What a run of bytes is worth. -/
def valL : List UInt8 → Nat
  | [] => 0
  | c :: r => c.toNat % 128 + 128 * valL r

theorem valL_snoc (l : List UInt8) (c : UInt8) : valL (l ++ [c]) = valL l + c.toNat % 128 * 128 ^ l.length := by
  induction l with
  | nil => simp [valL]
  | cons a l ih =>
    simp only [List.cons_append, valL, ih, List.length_cons, Nat.pow_succ]
    rw [Nat.mul_add, ← Nat.add_assoc]
    congr 1
    rw [Nat.mul_left_comm, Nat.mul_comm 128]

theorem valL_lt (l : List UInt8) : valL l < 128 ^ l.length := by
  induction l with
  | nil => simp [valL]
  | cons a l ih =>
    simp only [valL, List.length_cons, Nat.pow_succ]
    omega

/-- The first bytes of a text that make a number: up to the first byte below 128, at most 'fuel' of them. -/
def scan : Nat → List UInt8 → Option (List UInt8)
  | 0, _ => none
  | _ + 1, [] => none
  | f + 1, c :: r => if c.toNat < 128 then some [c] else (scan f r).map (c :: ·)

/-- A run that ends below 128, all else of it at or above. -/
def Run (l : List UInt8) : Prop := ∃ p c, l = p ++ [c] ∧ c.toNat < 128 ∧ ∀ x ∈ p, 128 ≤ x.toNat

theorem ofNat_toNat (c : UInt8) : UInt8.ofNat c.toNat = c := by simp

theorem var_val : ∀ (p : List UInt8) (c : UInt8), c.toNat < 128 → (∀ x ∈ p, 128 ≤ x.toNat) →
    (varL (valL (p ++ [c])) = p ++ [c] ↔ ¬ (c.toNat = 0 ∧ p ≠ [])) ∧ (valL (p ++ [c]) = 0 → c.toNat = 0) := by
  intro p
  induction p with
  | nil =>
    intro c hc _
    have e : valL ([] ++ [c]) = c.toNat := by simp [valL]; omega
    rw [e, varL_low _ hc]
    simp
  | cons a p ih =>
    intro c hc hp
    have ha : 128 ≤ a.toNat := hp a (by simp)
    have ha2 : a.toNat < 256 := a.toNat_lt
    obtain ⟨i1, i2⟩ := ih c hc (fun x hx => hp x (by simp [hx]))
    have e : valL (a :: p ++ [c]) = a.toNat % 128 + 128 * valL (p ++ [c]) := rfl
    rw [e]
    refine ⟨?_, fun h => i2 (by omega)⟩
    by_cases hv : valL (p ++ [c]) = 0
    · have hc0 := i2 hv
      rw [hv, varL_low _ (by omega)]
      constructor
      · intro h
        have := congrArg List.length h
        simp at this
      · intro h
        exact absurd ⟨hc0, by simp⟩ h
    · rw [varL_high _ (by omega)]
      have e1 : (a.toNat % 128 + 128 * valL (p ++ [c])) % 128 + 128 = a.toNat := by omega
      have e2 : (a.toNat % 128 + 128 * valL (p ++ [c])) / 128 = valL (p ++ [c]) := by omega
      rw [e1, e2, ofNat_toNat]
      constructor
      · intro h hn
        have h' : varL (valL (p ++ [c])) = p ++ [c] := by simpa using h
        have := i1.1 h'
        by_cases hp0 : p = []
        · subst hp0
          have : valL [c] = 0 := by simp [valL, hn.1]
          exact hv this
        · exact this ⟨hn.1, hp0⟩
      · intro h
        have hc0 : ¬ c.toNat = 0 := fun h0 => h ⟨h0, by simp⟩
        have := i1.2 (fun hh => hc0 hh.1)
        rw [this]; rfl

/-- What ReadVar answers. -/
def readV (text : List UInt8) (at_ : Nat) : Option (Nat × Nat) :=
  match scan 5 (text.drop at_) with
  | none => none
  | some l => if valL l ≤ 1000000000 ∧ varL (valL l) = l then some (valL l, at_ + l.length) else none

theorem scan_pre : ∀ (p r : List UInt8) (f : Nat), (∀ x ∈ p, 128 ≤ x.toNat) → scan (p.length + f) (p ++ r) = (scan f r).map (p ++ ·) := by
  intro p
  induction p with
  | nil => intro r f _; simp
  | cons a p ih =>
    intro r f hp
    have ha := hp a (by simp)
    have e : (a :: p).length + f = (p.length + f) + 1 := by simp; omega
    rw [e, List.cons_append, scan, if_neg (by omega), ih r f (fun x hx => hp x (by simp [hx]))]
    cases scan f r <;> simp
end Go.Proofs.YtaolinlginloaadDoor.Words
