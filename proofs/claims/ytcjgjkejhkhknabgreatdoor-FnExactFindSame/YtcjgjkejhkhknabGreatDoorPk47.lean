/-
  BRow; End; ImplE
-/
import Derived.Test.YtcjgjkejhkhknabGreatDoorPk0
import Derived.ArgAppend
import Derived.Test.YtcjgjkejhkhknabGreatDoorPk46
/-
  A row of bytes of the call's own, be it made of a text ('[]byte(s)') or by appends: one byte more.
-/
namespace Go.Proofs.YtcjgjkejhkhknabGreatDoor
open Go.RowKit

/-- The bytes l in a row that lies from block base on, with whatever room behind them. -/
def BRow (w : World) (base : Nat) (v : Value) (l : List UInt8) : Prop :=
  ∃ g cap, v = .slice (some ⟨g, 0, none⟩) l.length cap ∧ base ≤ g ∧ g < w.heap.size ∧ l.length ≤ cap ∧ (∀ j (hj : j < l.length), w.cell? ⟨g, j, none⟩ = some (.int .u8 (l[j].toNat : Int))) ∧
    ∀ j, l.length ≤ j → j < cap → (w.cell? ⟨g, j, none⟩).isSome = true ∧ w.frozen? ⟨g, j, none⟩ = false
theorem BRow.below {w w' : World} {base : Nat} {v : Value} {l : List UInt8} (h : BRow w base v l) (hb : Below w.heap.size w w') : BRow w' base v l := by
  obtain ⟨g, cap, h1, h2, h3, h4, h5, h6⟩ := h
  exact ⟨g, cap, h1, h2, Nat.lt_of_lt_of_le h3 hb.size, h4, fun j hj => by rw [hb.cell (show g < w.heap.size from h3)]; exact h5 j hj,
    fun j a b => by rw [hb.cell (show g < w.heap.size from h3), hb.frozen (show g < w.heap.size from h3)]; exact h6 j a b⟩

theorem brow_new (w : World) (s : ByteArray) : ∃ (v : Value) (w' : World), (convert 9 191 (.string s)).run Tryz.prog w = .ok v w' ∧ Below w.heap.size w w' ∧ BRow w' w.heap.size v s.data.toList := by
  have h := run_bytes_of_string (P := Tryz.prog) w 9 191 5 s Tryz.underlying9 Tryz.underlying191 Tryz.underlying5
  have hge := grownCap_ge w s.size 0 5
  generalize grownCap w s.size 0 5 = C at h hge
  have hsl : s.data.toList.length = s.size := by simp
  have d : w.drew.heap.size = w.heap.size := rfl
  have hsz : (bytesRow s C).size = C := by
    have : s.data.size = s.size := rfl
    unfold bytesRow
    rw [Array.size_append, Array.size_map, Array.size_replicate]
    omega
  have hcell : ∀ j, (w.drew.alloc (.cells (bytesRow s C) 5 ((bytesRow s C).size, (bytesRow s C).size + 1))).cell? ⟨w.heap.size, j, none⟩ = (bytesRow s C)[j]? := by
    intro j
    have := World.cell?_alloc_mark w.drew (bytesRow s C) 5 ((bytesRow s C).size, (bytesRow s C).size + 1) j
    rwa [d] at this
  refine ⟨_, _, h, ((Below.refl _ _).drew).alloc (Nat.le_refl _) _, w.heap.size, C, by rw [hsl], Nat.le_refl _, by simp, by omega, ?_, ?_⟩
  · intro j hj
    have hj2 : j < s.data.size := by simpa using hj
    rw [hcell, bytesRow_at s C j hj2]
    simp
  · intro j _ hj
    refine ⟨?_, ?_⟩
    · rw [hcell, Array.getElem?_eq_getElem (by omega)]; rfl
    · have := World.frozen?_alloc_mark w.drew (bytesRow s C) 5 (bytesRow s C).size ((bytesRow s C).size + 1) j
      rw [d] at this
      rw [this]
      simp; omega

theorem brow_own {w : World} {base : Nat} {v : Value} {l : List UInt8} (h : w.ownsRow base 5 1 v l.length (bcells l)) (h0 : 0 < l.length) : BRow w base v l := by
  have hlow := h.lt
  have hc := h
  rcases h.2 with ⟨-, h0'⟩ | ⟨g, cap, cur, rfl, hb, hg, hn, -, hcs, -⟩
  · omega
  · have hgl := hlow g rfl
    refine ⟨g, cap, rfl, hb, hgl.2, hn, ?_, ?_⟩
    · intro j hj
      have := hc.cells (g := g) rfl j _ (bcells_at l j hj)
      rwa [addr_at] at this
    · intro j _ hj
      refine ⟨?_, hc.frozenAt j⟩
      rw [cell_of_row w g j cur 5 (0, 0) hg, Array.getElem?_eq_getElem (by omega)]
      rfl

theorem brow_set {w : World} {base g cap : Nat} {l : List UInt8} {c : UInt8} {x : Int} (hx : (c.toNat : Int) = x) (hb : base ≤ g) (hg : g < w.heap.size) (hr : l.length + 1 ≤ cap) (h5 : ∀ j (hj : j < l.length), w.cell? ⟨g, j, none⟩ = some (.int .u8 (l[j].toNat : Int)))
    (h6 : ∀ j, l.length ≤ j → j < cap → (w.cell? ⟨g, j, none⟩).isSome = true ∧ w.frozen? ⟨g, j, none⟩ = false) : BRow (w.setCell ⟨g, l.length, none⟩ (.int .u8 x)) base (.slice (some ⟨g, 0, none⟩) (l.length + 1) cap) (l ++ [c]) := by
  have hs := World.cell?_setCell_same' w ⟨g, l.length, none⟩ (.int .u8 x) (h6 l.length (Nat.le_refl _) (by omega)).1
  have ho : ∀ j, j ≠ l.length → (w.setCell ⟨g, l.length, none⟩ (.int .u8 x)).cell? ⟨g, j, none⟩ = w.cell? ⟨g, j, none⟩ := fun j hj => World.cell?_setCell_other _ _ _ _ (fun e => hj (by injection e with _ e; exact e.symm))
  refine ⟨g, cap, by simp, hb, by simpa using hg, by simpa using hr, ?_, ?_⟩
  · intro j hj
    by_cases h : j = l.length
    · subst h
      rw [hs]
      simp [hx]
    · have hj2 : j < l.length := by simp at hj; omega
      rw [ho j h, h5 j hj2]
      simp [hj2]
  · intro j h1 h2
    have hj : l.length + 1 ≤ j := by simpa using h1
    rw [ho j (by omega), World.frozen?_setCell]
    exact h6 j (by omega) h2

theorem wpList_append_byte (w : World) {ops : Array Oper} {rest : List Oper} {o : Oper} {a : Act} {Q : Exit → Act → World → Prop} (hg : o.guard = none) (s x : Operand)
    (hop : o.op = Op.call { callee := Callee.builtin Builtin.append, args := #[s, x], argTypes := #[191, 191] })
    (base : Nat) (v : Value) (l : List UInt8) (hs : a.eval s = v) (hrow : BRow w base v l) (hl : l.length ≤ 1000000) (ad : Addr) (z : Int) (c : UInt8) (hc : (c.toNat : Int) = z) (hx : a.eval x = .slice (some ad) 1 1) (hn : w.cell? ad = some (.int .u8 z)) (hbase : base ≤ w.heap.size)
    (h : ∀ v' w', BRow w' base v' (l ++ [c]) → Below base w w' → wpList Tryz.prog ops Q rest (a.put o.dst v') w') : wpList Tryz.prog ops Q (o :: rest) a w := by
  obtain ⟨i0, hi, hz0, hz1, hz2⟩ := info_parts infoByte
  obtain ⟨g, cap, rfl, h2, h3, h4, h5, h6⟩ := hrow
  refine wpList_append_arg w hg s x 191 hop 5 i0 (.int .u8 0) 1 1 Tryz.underlying191 hi hz0 hz1 hz2 rfl (by decide) g 0 l.length cap (bcells l) hs (by rw [bcells_len]; omega) ?_ ad 1 1 [.int .u8 z] hx rfl ?_ (one_u8 _) ?_ (by unfold maxLen; omega) (by omega) ?_ ?_
  · intro j u hj
    have hj2 : j < l.length := by
      have := (List.getElem?_eq_some_iff.1 hj).1
      rwa [bcells_len] at this
    rw [bcells_at l j hj2] at hj
    cases hj
    rw [Nat.zero_add]
    exact h5 j hj2
  · intro j u hj
    match j, hj with
    | 0, hj => simp at hj; subst hj; simpa [Addr.add] using hn
  · intro hr j hj
    have hj0 : j = 0 := by simpa using hj
    subst hj0
    simpa using h6 l.length (Nat.le_refl _) (by omega)
  · intro hr
    have e : w.setCells g (0 + l.length * 1) [.int .u8 z] = w.setCell ⟨g, l.length, none⟩ (.int .u8 z) := by simp [World.setCells]
    rw [e]
    exact h _ _ (brow_set hc h2 h3 hr h5 h6) ((Below.refl base w).setCell (p := ⟨g, l.length, none⟩) h2 _)
  · intro _ v' w' hown hgrow
    have hown' : w'.ownsRow base 5 1 v' (l ++ [c]).length (bcells (l ++ [c])) := by
      rw [bcells_snoc l c z hc] at hown
      have : (l ++ [c]).length = l.length + 1 := by simp
      rw [this]
      exact own_lower hown hbase
    exact h _ _ (brow_own hown' (by simp)) ((Below.refl base w).grown hgrow hbase (fun k hk => by cases hk))
end Go.Proofs.YtcjgjkejhkhknabGreatDoor

/-
  The walk of the specification's HashEnd.
-/
namespace Go.Proofs.YtcjgjkejhkhknabGreatDoor
open Go.RowKit
open Dig

/-- The bytes of a number, the greatest first: m of the eight. -/
def lbN : Nat → Nat → List UInt8
  | 0, _ => []
  | m + 1, b => lbN m b ++ [UInt8.ofNat (b / 256 ^ (7 - m) % 256)]
theorem lbN_len (m b : Nat) : (lbN m b).length = m := by
  induction m with
  | zero => rfl
  | succ m ih => simp [lbN, ih]
def padN (r : List UInt8) (k : Nat) : List UInt8 := r ++ [128] ++ List.replicate k 0
theorem padN_len (r : List UInt8) (k : Nat) : (padN r k).length = r.length + 1 + k := by simp [padN]; omega
theorem padN_succ (r : List UInt8) (k : Nat) : padN r (k + 1) = padN r k ++ [0] := by simp [padN, List.replicate_succ']
/-- A text's rest, a byte 128, noughts, and eight bytes of its length in bits. -/
def padL (r : List UInt8) (n : Nat) : List UInt8 := padN r ((119 - r.length) % 64) ++ lbN 8 (8 * n)
theorem padL_len (r : List UInt8) (n : Nat) (hr : r.length < 64) : (padL r n).length % 64 = 0 ∧ (padL r n).length ≤ 128 := by
  unfold padL
  rw [List.length_append, padN_len, lbN_len]
  omega
theorem div_step (b j : Nat) : b / 256 ^ j / 256 = b / 256 ^ (j + 1) := by rw [Nat.div_div_eq_div_mul, Nat.pow_succ]
/-- The digest that a right hasher gives. -/
def endL (s r : List UInt8) (n : Nat) : List UInt8 := bytesOf (mixes ((padL r n).length / 64) (words s) (padL r n))

theorem addr_off' (b off j : Nat) : (⟨b, off, none⟩ : Addr).add j = ⟨b, off + j, none⟩ := by
  simp only [Addr.add]
  split <;> simp_all
def lenOf : Value → Nat
  | .slice _ n _ => n
  | _ => 0
theorem BRow.open {w : World} {base : Nat} {v : Value} {l : List UInt8} (h : BRow w base v l) : ∃ g cap, v = .slice (some ⟨g, 0, none⟩) l.length cap := by
  obtain ⟨g, cap, h, -⟩ := h
  exact ⟨g, cap, h⟩

end Go.Proofs.YtcjgjkejhkhknabGreatDoor

/-
  The walk of impl's last bytes of a text.
-/
namespace Go.Proofs.YtcjgjkejhkhknabGreatDoor
open Go.RowKit
open Dig

theorem lbN_four (b : Nat) : lbN 8 b = four4 (b / 4294967296) ++ four4 (b % 4294967296) := by
  have e : ∀ x y : Nat, x % 256 = y % 256 → UInt8.ofNat x = UInt8.ofNat y := by
    intro x y h
    apply UInt8.toNat_inj.1
    rw [UInt8.toNat_ofNat', UInt8.toNat_ofNat']
    exact h
  simp only [lbN, four4, List.nil_append, List.cons_append]
  simp only [List.cons.injEq, and_true]
  refine ⟨?_, ?_, ?_, ?_, ?_, ?_, ?_, ?_⟩
  all_goals first | exact e _ _ (by omega) | trivial

/-- What is put behind a text of so many bytes. -/
def lastL (n : Nat) : List UInt8 := [128] ++ List.replicate ((119 - n % 64) % 64) 0 ++ lbN 8 (8 * n)
theorem padL_last (r : List UInt8) (n : Nat) (h : r.length = n % 64) : padL r n = r ++ lastL n := by
  unfold padL padN lastL
  rw [h]
  simp [List.append_assoc]

theorem own_slice {w : World} {base : Nat} {v : Value} {l : List UInt8} (h : w.ownsRow base 5 1 v l.length (bcells l)) (h0 : 0 < l.length) : ∃ g cap, v = .slice (some ⟨g, 0, none⟩) l.length cap := by
  rcases h.2 with ⟨-, h0'⟩ | ⟨g, cap, cur, rfl, -⟩
  · omega
  · exact ⟨g, cap, rfl⟩
theorem appendWord_int (v : Value) (l : List UInt8) (z : Int) (x base : Nat) (hz : z = x) (w : World) (hx : x < 4294967296) (hl : l.length ≤ 1000000) (hown : w.ownsRow base 5 1 v l.length (bcells l)) (hB : base ≤ w.heap.size) :
    Calls Tryz.prog 142 #[v, .int .u32 z] w fun e w' => ∃ v' : Value, e = .returned v' ∧ w'.ownsRow base 5 1 v' (l ++ four4 x).length (bcells (l ++ four4 x)) ∧ Below base w w' := by
  subst hz
  exact appendWord_any v l x base w hx hl hown hB

theorem pad_snoc (k : Nat) : ([128] ++ List.replicate k 0 : List UInt8) ++ [0] = [128] ++ List.replicate (k + 1) 0 := by simp [List.replicate_succ']

set_option maxHeartbeats 400000 in
set_option maxRecDepth 100000 in
theorem last_any (n : Nat) (w : World) (hn : n ≤ 1000000000) :
    Calls Tryz.prog 106 #[.int .i64 n] w fun e w' => e = .returned (.string ⟨(lastL n).toArray⟩) ∧ Below w.heap.size w w' := by
  obtain ⟨i0, hi, hz0, hz1, hz2⟩ := info_parts infoByte
  go_enter Tryz.func106, Tryz.ntmps106
  go_wp2
  go_loopw [3] (fun out wr => ∃ (k : Nat) (l : List UInt8), k ≤ (119 - n % 64) % 64 ∧ Hid (l = [128] ++ List.replicate k 0) ∧ l.length = k + 1 ∧ Hid (wr.ownsRow w.heap.size 5 1 out l.length (bcells l)) ∧ Below w.heap.size w wr) (fun out _ => 64 - lenOf out)
  case atStart =>
    refine ⟨0, [128], by omega, rfl, rfl, ?_, (Below.refl _ _).alloc (Nat.le_refl _) _⟩
    exact ⟨rfl, .inr ⟨w.heap.size, 1, #[.int .u8 128], rfl, Nat.le_refl _, heap_alloc_new w _, Nat.le_refl _, by unfold maxLen; omega, rfl, rfl⟩⟩
  case round =>
    obtain ⟨k, l, hk, EL, hl, HO, hbel⟩ := hrel
    have hsz := hbel.size
    obtain ⟨gg, cap, rfl⟩ := own_slice HO.out (by omega)
    by_cases h56 : k = (119 - n % 64) % 64
    · have t1 : ((n : Int) + ((k + 1 : Nat) : Int)) % 64 = 56 := by omega
      obtain ⟨S, hS⟩ : ∃ S, S = 8 * n := ⟨_, rfl⟩
      have hS9 : S ≤ 8000000000 := by omega
      have fS : (8 : Int) * (n : Int) = (S : Int) := by omega
      obtain ⟨hi', hH⟩ : ∃ x, x = S / 4294967296 := ⟨_, rfl⟩
      obtain ⟨lo, hL⟩ : ∃ x, x = S % 4294967296 := ⟨_, rfl⟩
      have fH : (S : Int) / 4294967296 = (hi' : Int) := by omega
      have fL : (S : Int) % 4294967296 = (lo : Int) := by omega
      have EF : Hid (lastL n = l ++ four4 hi' ++ four4 lo) := by
        show _ = _
        unfold lastL
        rw [EL.out, ← h56, ← hS, lbN_four S, hH, hL, List.append_assoc, List.append_assoc, List.append_assoc]
      have hlo : lo < 4294967296 := by omega
      have hhi : hi' < 4294967296 := by omega
      have t2 : ((n : Int) + (l.length : Int)) % 64 = 56 := by rw [hl]; exact t1
      have hl9 : l.length ≤ 1000 := by omega
      have HO1 : Hid (wr.ownsRow w.heap.size 5 1 (.slice (some ⟨gg, 0, none⟩) (k + 1) cap) l.length (bcells l)) := by
        show World.ownsRow _ _ _ _ _ _ _
        have := HO.out
        rw [hl] at this ⊢
        exact this
      clear hS hH hL h56 EL t2 hk HO
      go_wp2_with fail
      refine (appendWord_int _ l _ hi' w.heap.size rfl _ hhi (by omega) HO1.out hsz).mono ?_
      rintro e w1 ⟨v1, rfl, hown1, hb1⟩
      have HO3 := hide hown1
      have hb1' := hide hb1
      have hsz1 : w.heap.size ≤ w1.heap.size := by have := hb1.size; omega
      have hl1 : (l ++ four4 hi').length ≤ 1000000 := by simp [four4]; omega
      clear hown1 hb1 HO1
      go_wp2_with fail
      refine (appendWord_int _ (l ++ four4 hi') _ lo w.heap.size rfl _ hlo hl1 HO3.out hsz1).mono ?_
      rintro e w2 ⟨v2, rfl, hown2, hb2⟩
      have hcv := conv_own w2 _ _ hown2
      rw [← EF.out] at hcv
      have HB : Hid (Below w.heap.size w w2) := (hbel.trans hb1'.out).trans hb2
      obtain ⟨r, hr⟩ : ∃ r, lastL n = r := ⟨_, rfl⟩
      rw [hr] at hcv
      have HR := hide hr
      clear hr hown2 hb2 HO3 EF
      go_wp2
      go_ret
      exact ⟨by rw [HR.out]; rfl, HB.out⟩
    · have t1 : ¬ ((n : Int) + (l.length : Int)) % 64 = 56 := by omega
      have F : Hid (l ++ [0] = [128] ++ List.replicate (k + 1) 0) := by show _ = _; rw [EL.out, pad_snoc]
      clear EL
      go_wp2_with (at_builtin; refine wpList_append_own _ rfl _ _ 191 rfl w.heap.size 5 i0 (.int .u8 0) 1 1 Tryz.underlying191 hi hz0 hz1 hz2 rfl (by decide) _ _ _ rfl (by exact HO.out.alloc _) ⟨wr.heap.size, 0, none⟩ 1 1 [Value.int .u8 _] rfl rfl (by exact one_cell _ _ _) (one_u8 _) (by unfold maxLen; omega) (by omega) (by simp; omega) ?_)
      intro v' w2 hown2 hgrow _
      have hb2 : Below w.heap.size w w2 := own_grown hbel hsz HO.out (by rw [hl]; exact hgrow)
      rw [bcells_snoc l 0 0 rfl] at hown2
      have HO2 : Hid (w2.ownsRow w.heap.size 5 1 v' (l ++ [0]).length (bcells (l ++ [0]))) := by
        show World.ownsRow _ _ _ _ _ _ _
        rw [List.length_append, hl]; exact hown2
      have hl2 : (l ++ [0]).length = k + 1 + 1 := by simp [hl]
      have hm : lenOf v' = k + 1 + 1 := by
        obtain ⟨g2, c2, hv2⟩ := own_slice HO2.out (by omega)
        rw [hv2, hl2]; rfl
      clear hown2 hgrow HO hbel
      go_wp2
      go_roundw
      case rel => exact ⟨k + 1, l ++ [0], by omega, F, hl2, HO2, hb2⟩
      case measure => simp [lenOf] at hm ⊢; omega

/-- The digest behind a state, a rest and a count. -/
def endS (st : List Nat) (r : List UInt8) (n : Nat) : List UInt8 := bytesOf (mixes ((padL r n).length / 64) st (padL r n))
theorem endS_words (s r : List UInt8) (n : Nat) : endS (words s) r n = endL s r n := rfl

/-- A state that lies in block g, written out. -/
def St8 (w : World) (g m0 m1 m2 m3 m4 m5 m6 m7 : Nat) : Prop := (w.cell? ⟨g, 0, none⟩ = some (.int .u32 m0) ∧ w.cell? ⟨g, 1, none⟩ = some (.int .u32 m1) ∧ w.cell? ⟨g, 2, none⟩ = some (.int .u32 m2) ∧ w.cell? ⟨g, 3, none⟩ = some (.int .u32 m3) ∧ w.cell? ⟨g, 4, none⟩ = some (.int .u32 m4) ∧ w.cell? ⟨g, 5, none⟩ = some (.int .u32 m5) ∧ w.cell? ⟨g, 6, none⟩ = some (.int .u32 m6) ∧ w.cell? ⟨g, 7, none⟩ = some (.int .u32 m7)) ∧
  (w.frozen? ⟨g, 0, none⟩ = false ∧ w.frozen? ⟨g, 1, none⟩ = false ∧ w.frozen? ⟨g, 2, none⟩ = false ∧ w.frozen? ⟨g, 3, none⟩ = false ∧ w.frozen? ⟨g, 4, none⟩ = false ∧ w.frozen? ⟨g, 5, none⟩ = false ∧ w.frozen? ⟨g, 6, none⟩ = false ∧ w.frozen? ⟨g, 7, none⟩ = false)
theorem st8_of {w : World} {g m0 m1 m2 m3 m4 m5 m6 m7 : Nat} (h : VAt w g [m0, m1, m2, m3, m4, m5, m6, m7]) : St8 w g m0 m1 m2 m3 m4 m5 m6 m7 :=
  ⟨⟨words_at h.1 0 m0 rfl, words_at h.1 1 m1 rfl, words_at h.1 2 m2 rfl, words_at h.1 3 m3 rfl, words_at h.1 4 m4 rfl, words_at h.1 5 m5 rfl, words_at h.1 6 m6 rfl, words_at h.1 7 m7 rfl⟩, h.2 0, h.2 1, h.2 2, h.2 3, h.2 4, h.2 5, h.2 6, h.2 7⟩
theorem store8 {w : World} {g p0 p1 p2 p3 p4 p5 p6 p7 : Nat} {l : List Nat} (h : VAt w g l) (hl : l.length = 8) : VAt ((((((((w.setCell ⟨g, 0, none⟩ (.int .u32 p0)).setCell ⟨g, 1, none⟩ (.int .u32 p1)).setCell ⟨g, 2, none⟩ (.int .u32 p2)).setCell ⟨g, 3, none⟩ (.int .u32 p3)).setCell ⟨g, 4, none⟩ (.int .u32 p4)).setCell ⟨g, 5, none⟩ (.int .u32 p5)).setCell ⟨g, 6, none⟩ (.int .u32 p6)).setCell ⟨g, 7, none⟩ (.int .u32 p7)) g [p0, p1, p2, p3, p4, p5, p6, p7] :=
  h.store [p0, p1, p2, p3, p4, p5, p6, p7] (by rw [hl]; rfl)
theorem below8 {B : Nat} {a w : World} {g p0 p1 p2 p3 p4 p5 p6 p7 : Nat} (h : Below B a w) (hg : B ≤ g) : Below B a ((((((((w.setCell ⟨g, 0, none⟩ (.int .u32 p0)).setCell ⟨g, 1, none⟩ (.int .u32 p1)).setCell ⟨g, 2, none⟩ (.int .u32 p2)).setCell ⟨g, 3, none⟩ (.int .u32 p3)).setCell ⟨g, 4, none⟩ (.int .u32 p4)).setCell ⟨g, 5, none⟩ (.int .u32 p5)).setCell ⟨g, 6, none⟩ (.int .u32 p6)).setCell ⟨g, 7, none⟩ (.int .u32 p7)) :=
  below_cellsD hg (wcells [p0, p1, p2, p3, p4, p5, p6, p7]) 0 w h
end Go.Proofs.YtcjgjkejhkhknabGreatDoor
