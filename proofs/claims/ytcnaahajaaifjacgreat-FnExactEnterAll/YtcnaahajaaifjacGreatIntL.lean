/-
  Rows of numbers that the call owns, by themselves: equal, marked, held.
-/
import Derived.Test.YtcnaahajaaifjacGreatPk0
namespace Go.Proofs.YtcnaahajaaifjacGreat
open Go.RowKit

/-- A row of numbers in blocks from lo on and below hi. -/
def Ints (lo hi : Nat) (v : Value) (l : List Int) : World → Prop := fun W => W.ownsRow lo 3 1 v l.length (icells l) ∧ ∀ g, v.ownBlock = some g → g < hi
theorem Ints.loc (lo hi : Nat) (v : Value) (l : List Int) : Loc lo hi (Ints lo hi v l) := by
  rintro w w' hk ⟨h, hh⟩
  refine ⟨⟨h.1, ?_⟩, hh⟩
  rcases h.2 with h1 | ⟨g, cap, cur, rfl, a2, a3, a4⟩
  · exact .inl h1
  · exact .inr ⟨g, cap, cur, rfl, a2, by rw [hk g a2 (hh g rfl)]; exact a3, a4⟩
theorem Ints.of {w : World} {B : Nat} {v : Value} {l : List Int} (h : w.ownsRow B 3 1 v l.length (icells l)) : Ints B w.heap.size v l w := ⟨h, fun g hg => (h.lt g hg).2⟩
theorem Ints.form {w : World} {lo hi : Nat} {v : Value} {l : List Int} (h : Ints lo hi v l w) : ∃ ad cap, v = .slice ad l.length cap ∧ (0 < l.length → ∃ g, ad = some ⟨g, 0, none⟩ ∧ lo ≤ g ∧ g < hi) := by
  obtain ⟨h, hh⟩ := h
  have hlt := h.lt
  rcases h.2 with ⟨h1, h2⟩ | ⟨g, cap, cur, h1, -, -, h3, h4, -⟩
  · exact ⟨none, 0, by rw [h1, h2], fun h => by omega⟩
  · subst h1
    exact ⟨_, cap, rfl, fun _ => ⟨g, rfl, (hlt g rfl).1, hh g rfl⟩⟩
theorem Ints.cell {w : World} {lo hi g n cap : Nat} {l : List Int} {k : Nat} {x : Int} (h : Ints lo hi (.slice (some ⟨g, 0, none⟩) n cap) l w) (hx : l[k]? = some x) : w.cell? ⟨g, k, none⟩ = some (.int .i64 x) := by
  have h1 := h.1.cells (g := g) rfl k (.int .i64 x) (by rw [icells, List.getElem?_map, hx]; rfl)
  rw [addr_at] at h1
  exact h1
theorem Ints.frozen {w : World} {lo hi g n cap : Nat} {l : List Int} (h : Ints lo hi (.slice (some ⟨g, 0, none⟩) n cap) l w) (o : Nat) : w.frozen? ⟨g, o, none⟩ = false := by
  rcases h.1.2 with ⟨h, -⟩ | ⟨g', cap', cur, h1, -, h3, -⟩
  · cases h
  · injection h1 with a b c
    injection a with a
    injection a with a
    subst a
    exact frozen_of_row _ _ o _ _ h3
theorem Ints.set {w : World} {lo hi g n cap : Nat} {l : List Int} (h : Ints lo hi (.slice (some ⟨g, 0, none⟩) n cap) l w) (k : Nat) (x : Int) : Ints lo hi (.slice (some ⟨g, 0, none⟩) n cap) (l.set k x) (w.setCell ⟨g, k, none⟩ (.int .i64 x)) := by
  obtain ⟨⟨h1, h2⟩, hh⟩ := h
  refine ⟨⟨?_, ?_⟩, hh⟩
  · simp [icells]
  · rcases h2 with ⟨h3, -⟩ | ⟨g', cap', cur, h3, h4, h5, h6, h7, h8, h9⟩
    · cases h3
    · injection h3 with a b c
      injection a with a
      injection a with a
      subst a
      refine .inr ⟨g, cap', cur.setIfInBounds k (.int .i64 x), by rw [List.length_set, b, c], h4, ?_, by simpa using h6, h7, by simpa using h8, ?_⟩
      · rw [setCell_eq_setRow w g k cur 3 (0, 0) _ h5]
        exact setRow_heap w g cur _ 3 _ h5
      · rw [Array.toList_setIfInBounds, List.take_set, List.length_set, h9]
        simp [icells]

set_option maxHeartbeats 400000 in
set_option maxRecDepth 100000 in
theorem eqInts_any (l1 h1 l2 h2 : Nat) (a b : Value) (l : List Int) (w : World) (hl : l.length ≤ 1000000000) (ha : Ints l1 h1 a l w) (hb : Ints l2 h2 b l w) :
    Calls Tryz.prog 89 #[a, b] w fun e w' => e = .returned (.bool true) ∧ Below w.heap.size w w' := by
  obtain ⟨ad, ca, rfl, a3⟩ := ha.form
  obtain ⟨bd, cb, rfl, b3⟩ := hb.form
  have HA := hide ha
  have HB := hide hb
  have A3 := hide a3
  have B3 := hide b3
  obtain ⟨n, hn⟩ : ∃ n, l.length = n := ⟨_, rfl⟩
  have HN := hide hn
  rw [hn] at hl HA HB A3 B3 ⊢
  clear ha hb a3 b3 hn
  go_enter Tryz.func89, Tryz.ntmps89
  go_wp2
  go_loopw [5] (fun iv wr => ∃ k : Nat, k ≤ n ∧ iv = .int .i64 k ∧ Hid (∃ q, wr = w.drewN q)) (fun iv _ => n - (intOf iv).toNat)
  case atStart => exact ⟨0, Nat.zero_le _, rfl, ⟨0, rfl⟩⟩
  case round =>
    obtain ⟨k, hk, rfl, HQ⟩ := hrel
    obtain ⟨q, hq⟩ := HQ.out
    subst hq
    clear HQ
    by_cases hlt : (k : Int) < n
    · obtain ⟨x, hx⟩ : ∃ x, l[k]? = some x := ⟨_, List.getElem?_eq_getElem (by have := HN.out; omega)⟩
      obtain ⟨ga, e, -, -⟩ := A3.out (by omega)
      subst e
      obtain ⟨gb, e, -, -⟩ := B3.out (by omega)
      subst e
      have c1 := HA.out.cell hx
      have c2 := HB.out.cell hx
      have hxx : (x != x) = false := by simp
      have k0 : (0 : Int) ≤ k := by omega
      clear hx
      go_wp2
      go_quiet (fail)
      go_wp2
      go_roundw
      case rel => exact ⟨k + 1, by omega, by go_num, ⟨_, rfl⟩⟩
      case measure => simp [intOf]; omega
    · go_wp2
      go_ret
      exact ⟨rfl, below_drewN (Below.refl _ _) _⟩
/-- 1 and on. -/
def upFrom (k : Int) (n : Nat) : List Int := (List.range n).map (fun i : Nat => k + (i : Int))
theorem upFrom_len (k : Int) (n : Nat) : (upFrom k n).length = n := by simp [upFrom]
theorem upFrom_at (k : Int) (n i : Nat) (h : i < n) : (upFrom k n)[i]? = some (k + (i : Int)) := by simp [upFrom, h]
set_option maxHeartbeats 400000 in
set_option maxRecDepth 100000 in
theorem markInts_any (lo hi : Nat) (a : Value) (l : List Int) (k0 : Int) (w : World) (hl : l.length ≤ 1000000000) (hk0 : 0 ≤ k0) (hk1 : k0 ≤ 1000000000000) (ha : Ints lo hi a l w) :
    Calls Tryz.prog 72 #[a, .int .i64 k0] w fun e w' => e = .returned (.int .i64 (k0 + l.length)) ∧ Hid (Ints lo hi a (upFrom k0 l.length) w') ∧ Hid (Kept2 w w' (Apt lo hi)) := by
  obtain ⟨ad, ca, rfl, a3⟩ := ha.form
  have A3 := hide a3
  obtain ⟨n, hn⟩ : ∃ n, l.length = n := ⟨_, rfl⟩
  have HN := hide hn
  have HA : Hid (Ints lo hi (.slice ad n ca) (upFrom k0 0 ++ l.drop 0) w) := by show Ints _ _ _ _ _; rw [← hn]; simpa [upFrom] using ha
  rw [hn] at hl A3 ⊢
  clear ha a3 hn
  go_enter Tryz.func72, Tryz.ntmps72
  go_wp2
  go_loopw [1, 5] (fun mv iv wr => ∃ k : Nat, k ≤ n ∧ iv = .int .i64 k ∧ mv = .int .i64 (k0 + k) ∧ Hid (Ints lo hi (.slice ad n ca) (upFrom k0 k ++ l.drop k) wr) ∧ Hid (Kept2 w wr (Apt lo hi))) (fun _ iv _ => n - (intOf iv).toNat)
  case atStart => exact ⟨0, Nat.zero_le _, rfl, by simp, HA, Kept2.refl _ _⟩
  case round =>
    obtain ⟨k, hk, rfl, rfl, HR, HK⟩ := hrel
    clear HA
    by_cases hlt : (k : Int) < n
    · have hkl : k < l.length := by have := HN.out; omega
      obtain ⟨ga, e, g1, g2⟩ := A3.out (by omega)
      subst e
      have hd : l.drop k = l[k] :: l.drop (k + 1) := (List.drop_eq_getElem_cons hkl)
      have c1 : wr.cell? ⟨ga, k, none⟩ = some (.int .i64 l[k]) := by
        refine HR.out.cell ?_
        rw [List.getElem?_append_right (by rw [upFrom_len]; omega), upFrom_len, hd]
        simp
      have f1 := HR.out.frozen k
      have R2 : Hid (Ints lo hi (.slice (some ⟨ga, 0, none⟩) n ca) (upFrom k0 (k + 1) ++ l.drop (k + 1)) (wr.setCell ⟨ga, k, none⟩ (.int .i64 (k0 + k)))) := by
        have := HR.out.set k (k0 + k)
        rw [hd, List.set_append_right _ _ (by rw [upFrom_len]; omega), upFrom_len, Nat.sub_self, List.set_cons_zero] at this
        have e2 : upFrom k0 (k + 1) = upFrom k0 k ++ [k0 + (k : Int)] := by simp [upFrom, List.range_succ]
        rw [e2, List.append_assoc]
        exact this
      have K2 : Hid (Kept2 w (wr.setCell ⟨ga, k, none⟩ (.int .i64 (k0 + k))) (Apt lo hi)) := by
        refine HK.out.trans ⟨rfl, rfl, rfl, by simp, fun i _ hne => Below.heap_setCell _ _ _ _ (fun (e : i = ga) => hne ⟨by omega, by omega⟩)⟩
      have k0' : (0 : Int) ≤ k := by omega
      generalize l[k] = x at c1
      clear hd hkl HR HK
      go_wp2
      go_roundw
      case rel => exact ⟨k + 1, by omega, by go_num, by congr 1; push_cast; omega, R2, K2⟩
      case measure => simp [intOf]; omega
    · have hkn : k = n := by omega
      subst hkn
      have R2 : Hid (Ints lo hi (.slice ad k ca) (upFrom k0 k) wr) := by
        have := HR.out
        rw [List.drop_of_length_le (by have := HN.out; omega), List.append_nil] at this
        exact this
      clear HR
      go_wp2
      go_ret
      exact ⟨rfl, R2, HK⟩
set_option maxHeartbeats 400000 in
set_option maxRecDepth 100000 in
theorem heldInts_any (lo hi : Nat) (a : Value) (n : Nat) (k0 : Int) (w : World) (hl : n ≤ 1000000000) (hk0 : 0 ≤ k0) (hk1 : k0 ≤ 1000000000000) (ha : Ints lo hi a (upFrom k0 n) w) :
    Calls Tryz.prog 73 #[a, .int .i64 k0] w fun e w' => e = .returned (.int .i64 (k0 + n)) ∧ w' = w := by
  obtain ⟨ad, ca, rfl, a3⟩ := ha.form
  rw [upFrom_len] at ha a3 ⊢
  have A3 := hide a3
  have HA := hide ha
  clear ha a3
  go_enter Tryz.func73, Tryz.ntmps73
  go_wp2
  go_loop [1, 5] (fun mv iv => ∃ k : Nat, k ≤ n ∧ iv = .int .i64 k ∧ mv = .int .i64 (k0 + k)) (fun _ iv => n - (intOf iv).toNat)
  case atStart => exact ⟨0, Nat.zero_le _, rfl, by simp⟩
  case round =>
    obtain ⟨k, hk, rfl, rfl⟩ := hrel
    by_cases hlt : (k : Int) < n
    · obtain ⟨ga, e, g1, g2⟩ := A3.out (by omega)
      subst e
      have c1 := HA.out.cell (upFrom_at k0 n k (by omega))
      have hxx : ((k0 + (k : Int)) != (k0 + (k : Int))) = false := by simp
      have k0' : (0 : Int) ≤ k := by omega
      go_wp2
      go_round
      case rel => exact ⟨k + 1, by omega, by go_num, by congr 1; push_cast; omega⟩
      case measure => simp [intOf]; omega
    · have hkn : k = n := by omega
      subst hkn
      go_wp2
      go_ret
      exact ⟨rfl, rfl⟩
end Go.Proofs.YtcnaahajaaifjacGreat
