/-
  SPageOk; TxMath4
-/
import Derived.Test.YtcjgjkejhkhknaaPq65
import Derived.Test.YtcjgjkejhkhknaaPq0
import Derived.Test.YtcjgjkejhkhknaaTxMath2
/-
  spec.PageOk.
-/
namespace Go.Proofs.Ytcjgjkejhkhknaa
open Go.RowKit
open Words

theorem right_spec (k s x q c : Int) (t : ByteArray) : (Pg.mk k s x q c t).Right ↔ (1 ≤ k ∧ k ≤ 2) ∧ (1 ≤ s ∧ s ≤ 1000000000) ∧ (1 ≤ x ∧ x ≤ 1000000000) ∧ (1 ≤ c ∧ c ≤ 9) ∧ (0 ≤ q ∧ q ≤ c - 1) ∧ (t.size : Int) ≤ 90 ∧ (k = 2 ∨ c = 1) := by
  unfold Pg.Right
  simp only
  omega

theorem cell_new6 (w w1 : World) (a b c d e f : Value) (ty : TypeId) (hb : Below (w.alloc (.cells #[a, b, c, d, e, f] ty)).heap.size (w.alloc (.cells #[a, b, c, d, e, f] ty)) w1) :
    w1.cell? ⟨w.heap.size, 0, none⟩ = some a ∧ w1.cell? ⟨w.heap.size, 1, none⟩ = some b ∧ w1.cell? ⟨w.heap.size, 2, none⟩ = some c ∧ w1.cell? ⟨w.heap.size, 3, none⟩ = some d ∧ w1.cell? ⟨w.heap.size, 4, none⟩ = some e ∧ w1.cell? ⟨w.heap.size, 5, none⟩ = some f := by
  refine ⟨?_, ?_, ?_, ?_, ?_, ?_⟩ <;> (rw [hb.cell (by simp)]; simp)

set_option maxHeartbeats 1000000 in
set_option maxRecDepth 100000 in
theorem spageOk (p : Pg) (w : World) :
    Calls Try.prog 35 #[pgVal p] w fun e w' => e = .returned (.bool (@decide p.Right p.decR)) ∧ Below w.heap.size w w' := by
  obtain ⟨k, s, x, q, c, t⟩ := p
  have HE := hide (right_spec k s x q c t)
  have HB := hide ((Below.refl w.heap.size w).alloc (Nat.le_refl _) (.cells #[.int .i64 k, .int .i64 s, .int .i64 x, .int .i64 q, .int .i64 c, .string t] 69))
  unfold pgVal
  simp only
  by_cases a1 : 1 ≤ k ∧ k ≤ 2
  · by_cases a2 : 1 ≤ s ∧ s ≤ 1000000000
    · by_cases a3 : 1 ≤ x ∧ x ≤ 1000000000
      · by_cases a4 : 1 ≤ c ∧ c ≤ 9
        · have ew : IntKind.i64.wrap (c - 1) = c - 1 := by rw [IntKind.wrap_i64]; omega
          by_cases a5 : 0 ≤ q ∧ q ≤ c - 1
          · by_cases a6 : 90 < (t.size : Int)
            · go_enter Try.func35, Try.ntmps35
              go_wp2_with fail
              refine (sin_b k 1 2 true _ (.inl ⟨a1.1, a1.2, rfl⟩)).mono ?_
              rintro e w1 ⟨rfl, rfl⟩
              go_wp2_with fail
              refine (sin_b s 1 1000000000 true _ (.inl ⟨a2.1, a2.2, rfl⟩)).mono ?_
              rintro e w1 ⟨rfl, rfl⟩
              go_wp2_with fail
              refine (sin_b x 1 1000000000 true _ (.inl ⟨a3.1, a3.2, rfl⟩)).mono ?_
              rintro e w1 ⟨rfl, rfl⟩
              go_wp2_with fail
              refine (sin_b c 1 9 true _ (.inl ⟨a4.1, a4.2, rfl⟩)).mono ?_
              rintro e w1 ⟨rfl, rfl⟩
              go_wp2_with fail
              refine (sin_b q 0 (c - 1) true _ (.inl ⟨a5.1, a5.2, rfl⟩)).mono ?_
              rintro e w1 ⟨rfl, rfl⟩
              go_wp2
              go_ret
              exact ⟨by rw [dcN (fun h => by have := HE.out.1 h; omega)]; rfl, HB.out⟩
            · by_cases a7 : (k == 2) = true
              · go_enter Try.func35, Try.ntmps35
                go_wp2_with fail
                refine (sin_b k 1 2 true _ (.inl ⟨a1.1, a1.2, rfl⟩)).mono ?_
                rintro e w1 ⟨rfl, rfl⟩
                go_wp2_with fail
                refine (sin_b s 1 1000000000 true _ (.inl ⟨a2.1, a2.2, rfl⟩)).mono ?_
                rintro e w1 ⟨rfl, rfl⟩
                go_wp2_with fail
                refine (sin_b x 1 1000000000 true _ (.inl ⟨a3.1, a3.2, rfl⟩)).mono ?_
                rintro e w1 ⟨rfl, rfl⟩
                go_wp2_with fail
                refine (sin_b c 1 9 true _ (.inl ⟨a4.1, a4.2, rfl⟩)).mono ?_
                rintro e w1 ⟨rfl, rfl⟩
                go_wp2_with fail
                refine (sin_b q 0 (c - 1) true _ (.inl ⟨a5.1, a5.2, rfl⟩)).mono ?_
                rintro e w1 ⟨rfl, rfl⟩
                go_wp2
                go_ret
                exact ⟨by simp at a7; rw [dcY (HE.out.2 (by omega))]; rfl, HB.out⟩
              · have a7 : (k == 2) = false := by simpa using a7
                go_enter Try.func35, Try.ntmps35
                go_wp2_with fail
                refine (sin_b k 1 2 true _ (.inl ⟨a1.1, a1.2, rfl⟩)).mono ?_
                rintro e w1 ⟨rfl, rfl⟩
                go_wp2_with fail
                refine (sin_b s 1 1000000000 true _ (.inl ⟨a2.1, a2.2, rfl⟩)).mono ?_
                rintro e w1 ⟨rfl, rfl⟩
                go_wp2_with fail
                refine (sin_b x 1 1000000000 true _ (.inl ⟨a3.1, a3.2, rfl⟩)).mono ?_
                rintro e w1 ⟨rfl, rfl⟩
                go_wp2_with fail
                refine (sin_b c 1 9 true _ (.inl ⟨a4.1, a4.2, rfl⟩)).mono ?_
                rintro e w1 ⟨rfl, rfl⟩
                go_wp2_with fail
                refine (sin_b q 0 (c - 1) true _ (.inl ⟨a5.1, a5.2, rfl⟩)).mono ?_
                rintro e w1 ⟨rfl, rfl⟩
                go_wp2
                go_ret
                refine ⟨?_, HB.out⟩
                simp at a7
                have e : @decide (Pg.mk k s x q c t).Right (Pg.mk k s x q c t).decR = (c == 1) := by
                  by_cases b : c = 1
                  · rw [dcY (HE.out.2 (by omega))]; simp [b]
                  · rw [dcN (fun h => by have := HE.out.1 h; omega)]; simp [b]
                rw [e]
                rfl
          · go_enter Try.func35, Try.ntmps35
            go_wp2_with fail
            refine (sin_b k 1 2 true _ (.inl ⟨a1.1, a1.2, rfl⟩)).mono ?_
            rintro e w1 ⟨rfl, rfl⟩
            go_wp2_with fail
            refine (sin_b s 1 1000000000 true _ (.inl ⟨a2.1, a2.2, rfl⟩)).mono ?_
            rintro e w1 ⟨rfl, rfl⟩
            go_wp2_with fail
            refine (sin_b x 1 1000000000 true _ (.inl ⟨a3.1, a3.2, rfl⟩)).mono ?_
            rintro e w1 ⟨rfl, rfl⟩
            go_wp2_with fail
            refine (sin_b c 1 9 true _ (.inl ⟨a4.1, a4.2, rfl⟩)).mono ?_
            rintro e w1 ⟨rfl, rfl⟩
            go_wp2_with fail
            refine (sin_b q 0 (c - 1) false _ (.inr ⟨by omega, rfl⟩)).mono ?_
            rintro e w1 ⟨rfl, rfl⟩
            go_wp2
            go_ret
            exact ⟨by rw [dcN (fun h => by have := HE.out.1 h; omega)]; rfl, HB.out⟩
        · go_enter Try.func35, Try.ntmps35
          go_wp2_with fail
          refine (sin_b k 1 2 true _ (.inl ⟨a1.1, a1.2, rfl⟩)).mono ?_
          rintro e w1 ⟨rfl, rfl⟩
          go_wp2_with fail
          refine (sin_b s 1 1000000000 true _ (.inl ⟨a2.1, a2.2, rfl⟩)).mono ?_
          rintro e w1 ⟨rfl, rfl⟩
          go_wp2_with fail
          refine (sin_b x 1 1000000000 true _ (.inl ⟨a3.1, a3.2, rfl⟩)).mono ?_
          rintro e w1 ⟨rfl, rfl⟩
          go_wp2_with fail
          refine (sin_b c 1 9 false _ (.inr ⟨by omega, rfl⟩)).mono ?_
          rintro e w1 ⟨rfl, rfl⟩
          go_wp2
          go_ret
          exact ⟨by rw [dcN (fun h => by have := HE.out.1 h; omega)]; rfl, HB.out⟩
      · go_enter Try.func35, Try.ntmps35
        go_wp2_with fail
        refine (sin_b k 1 2 true _ (.inl ⟨a1.1, a1.2, rfl⟩)).mono ?_
        rintro e w1 ⟨rfl, rfl⟩
        go_wp2_with fail
        refine (sin_b s 1 1000000000 true _ (.inl ⟨a2.1, a2.2, rfl⟩)).mono ?_
        rintro e w1 ⟨rfl, rfl⟩
        go_wp2_with fail
        refine (sin_b x 1 1000000000 false _ (.inr ⟨by omega, rfl⟩)).mono ?_
        rintro e w1 ⟨rfl, rfl⟩
        go_wp2
        go_ret
        exact ⟨by rw [dcN (fun h => by have := HE.out.1 h; omega)]; rfl, HB.out⟩
    · go_enter Try.func35, Try.ntmps35
      go_wp2_with fail
      refine (sin_b k 1 2 true _ (.inl ⟨a1.1, a1.2, rfl⟩)).mono ?_
      rintro e w1 ⟨rfl, rfl⟩
      go_wp2_with fail
      refine (sin_b s 1 1000000000 false _ (.inr ⟨by omega, rfl⟩)).mono ?_
      rintro e w1 ⟨rfl, rfl⟩
      go_wp2
      go_ret
      exact ⟨by rw [dcN (fun h => by have := HE.out.1 h; omega)]; rfl, HB.out⟩
  · go_enter Try.func35, Try.ntmps35
    go_wp2_with fail
    refine (sin_b k 1 2 false _ (.inr ⟨by omega, rfl⟩)).mono ?_
    rintro e w1 ⟨rfl, rfl⟩
    go_wp2
    go_ret
    exact ⟨by rw [dcN (fun h => by have := HE.out.1 h; omega)]; rfl, HB.out⟩
end Go.Proofs.Ytcjgjkejhkhknaa

/-
  Plain facts: the pages of a transaction, turned round, and with one of them left out.
-/
namespace Go.Proofs.Ytcjgjkejhkhknaa.Words

/-- The first k of the pages, from place r on and round. -/
def rotL (Q : List Pg) (r k : Nat) : List Pg := (List.range k).filterMap (fun i => Q[(i + r) % Q.length]?)
theorem rotL_succ {Q : List Pg} {r k : Nat} {x : Pg} (h : Q[(k + r) % Q.length]? = some x) : rotL Q r (k + 1) = rotL Q r k ++ [x] := by
  unfold rotL
  rw [List.range_succ, List.filterMap_append]
  simp [h]
theorem rotL_len {Q : List Pg} (r : Nat) (h0 : 0 < Q.length) : ∀ k, (rotL Q r k).length = k := by
  intro k
  induction k with
  | zero => rfl
  | succ k ih =>
    have hx : (k + r) % Q.length < Q.length := Nat.mod_lt _ h0
    rw [rotL_succ (List.getElem?_eq_getElem hx), List.length_append, ih]
    rfl
theorem rotL_get {Q : List Pg} (r : Nat) (h0 : 0 < Q.length) {k i : Nat} (hi : i < k) : (rotL Q r k)[i]? = Q[(i + r) % Q.length]? := by
  induction k with
  | zero => omega
  | succ k ih =>
    have hx : (k + r) % Q.length < Q.length := Nat.mod_lt _ h0
    rw [rotL_succ (List.getElem?_eq_getElem hx)]
    by_cases e : i = k
    · subst e
      rw [List.getElem?_append_right (by rw [rotL_len r h0]; exact Nat.le_refl _), rotL_len r h0, Nat.sub_self, List.getElem?_eq_getElem hx]
      rfl
    · rw [List.getElem?_append_left (by rw [rotL_len r h0]; omega)]
      exact ih (by omega)
theorem mod_back {n q r : Nat} (hq : q < n) : ∃ i, i < n ∧ (i + r) % n = q := by
  refine ⟨(q + (n - r % n)) % n, Nat.mod_lt _ (by omega), ?_⟩
  have hr : r % n < n := Nat.mod_lt _ (by omega)
  rw [Nat.mod_add_mod]
  have e : q + (n - r % n) + r = q + n + (r - r % n) := by have := Nat.mod_le r n; omega
  rw [e]
  have e2 : r - r % n = n * (r / n) := by have := Nat.div_add_mod r n; omega
  rw [e2, Nat.add_mul_mod_self_left, Nat.add_mod_right]
  exact Nat.mod_eq_of_lt hq
theorem mod_inj {n i j r : Nat} (hi : i < n) (hj : j < n) (h : (i + r) % n = (j + r) % n) : i = j := by
  have h1 := Nat.div_add_mod (i + r) n
  have h2 := Nat.div_add_mod (j + r) n
  rw [h] at h1
  have h3 : ∀ a b : Nat, n * a + (j + r) % n = i + r → n * b + (j + r) % n = j + r → i = j := by
    intro a b e1 e2
    rcases Nat.lt_trichotomy a b with q | q | q
    · have : n * (a + 1) ≤ n * b := Nat.mul_le_mul_left _ q
      rw [Nat.mul_add] at this
      omega
    · subst q; omega
    · have : n * (b + 1) ≤ n * a := Nat.mul_le_mul_left _ q
      rw [Nat.mul_add] at this
      omega
  exact h3 _ _ h1 h2
theorem rot_mem {Q : List Pg} (r : Nat) (h0 : 0 < Q.length) (x : Pg) : x ∈ rotL Q r Q.length ↔ x ∈ Q := by
  constructor
  · intro hx
    obtain ⟨i, hi⟩ := List.mem_iff_getElem?.1 hx
    have hil := (List.getElem?_eq_some_iff.1 hi).1
    rw [rotL_len r h0] at hil
    rw [rotL_get r h0 hil] at hi
    exact List.mem_of_getElem? hi
  · intro hx
    obtain ⟨q, hq⟩ := List.mem_iff_getElem?.1 hx
    obtain ⟨i, hi, e⟩ := mod_back (r := r) (List.getElem?_eq_some_iff.1 hq).1
    have := rotL_get r h0 hi
    rw [e, hq] at this
    exact List.mem_of_getElem? this
/-- All but the m-th. -/
def butL (l : List Pg) (m : Nat) : List Pg := l.take m ++ l.drop (m + 1)
theorem but_mem {l : List Pg} {m : Nat} {x : Pg} : x ∈ butL l m ↔ ∃ i, i ≠ m ∧ l[i]? = some x := by
  unfold butL
  rw [List.mem_append]
  constructor
  · rintro (h | h)
    · obtain ⟨i, hi⟩ := List.mem_iff_getElem?.1 h
      have hil := (List.getElem?_eq_some_iff.1 hi).1
      rw [List.length_take] at hil
      rw [List.getElem?_take, if_pos (by omega)] at hi
      exact ⟨i, by omega, hi⟩
    · obtain ⟨i, hi⟩ := List.mem_iff_getElem?.1 h
      rw [List.getElem?_drop] at hi
      exact ⟨m + 1 + i, by omega, hi⟩
  · rintro ⟨i, hi, h⟩
    rcases Nat.lt_or_gt_of_ne hi with q | q
    · left
      refine List.mem_of_getElem? (i := i) ?_
      rw [List.getElem?_take, if_pos q]
      exact h
    · right
      refine List.mem_of_getElem? (i := i - (m + 1)) ?_
      rw [List.getElem?_drop, show m + 1 + (i - (m + 1)) = i by omega]
      exact h
theorem gather_rot {seq tx : Int} {l : List Rc} (hr : ∀ x ∈ l, x.Right) (r : Nat) : gatherP (rotL (txPgs seq tx l) r (txPgs seq tx l).length) = [⟨tx, seq, l⟩] := by
  have h0 : 0 < (txPgs seq tx l).length := by rw [txPgs_len]; exact pkG_pos l
  exact gather_one hr (fun x => rot_mem r h0 x)
theorem gather_but {seq tx : Int} {l : List Rc} (r m : Nat) (hm : m < (txPgs seq tx l).length) : gatherP (butL (rotL (txPgs seq tx l) r (txPgs seq tx l).length) m) = [] := by
  have h0 : 0 < (txPgs seq tx l).length := by rw [txPgs_len]; exact pkG_pos l
  have hlen : (txPgs seq tx l).length = (pkG l).length := txPgs_len _ _ _
  refine gather_none (seq := seq) (tx := tx) (j := (m + r) % (txPgs seq tx l).length) (by rw [← hlen]; exact Nat.mod_lt _ h0) (fun x => ?_)
  rw [but_mem]
  constructor
  · rintro ⟨i, hi, h⟩
    have hil := (List.getElem?_eq_some_iff.1 h).1
    rw [rotL_len r h0] at hil
    rw [rotL_get r h0 hil] at h
    refine ⟨List.mem_of_getElem? h, fun e => hi ?_⟩
    obtain ⟨g, -, rfl⟩ := txPgs_at h
    have e2 : (((i + r) % (txPgs seq tx l).length : Nat) : Int) = (((m + r) % (txPgs seq tx l).length : Nat) : Int) := e
    exact mod_inj hil hm (Int.ofNat.inj e2)
  · rintro ⟨hx, hp⟩
    obtain ⟨q, hq⟩ := List.mem_iff_getElem?.1 hx
    have hql := (List.getElem?_eq_some_iff.1 hq).1
    obtain ⟨i, hi, e⟩ := mod_back (r := r) hql
    refine ⟨i, fun e2 => hp ?_, ?_⟩
    · subst e2
      obtain ⟨g, -, rfl⟩ := txPgs_at hq
      show ((q : Nat) : Int) = _
      rw [e]
    · rw [rotL_get r h0 hi, e]
      exact hq
theorem rot_all {Q : List Pg} {r k : Nat} {P : Pg → Prop} (h : ∀ p ∈ Q, P p) : ∀ p ∈ rotL Q r k, P p := by
  intro p hp
  obtain ⟨i, -, hi⟩ := List.mem_filterMap.1 hp
  exact h p (List.mem_of_getElem? hi)
theorem but_all {l : List Pg} {m : Nat} {P : Pg → Prop} (h : ∀ p ∈ l, P p) : ∀ p ∈ butL l m, P p := by
  intro p hp
  obtain ⟨i, -, hi⟩ := but_mem.1 hp
  exact h p (List.mem_of_getElem? hi)
end Go.Proofs.Ytcjgjkejhkhknaa.Words
