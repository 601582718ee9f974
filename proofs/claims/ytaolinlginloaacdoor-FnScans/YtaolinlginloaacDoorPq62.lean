/-
  Flt; FdRow; SRead
-/
import Derived.Test.YtaolinlginloaacDoorPq61
import Derived.Test.YtaolinlginloaacDoorIScan2
import Derived.Test.YtaolinlginloaacDoorPq2
import Derived.Test.YtaolinlginloaacDoorPq35
import Derived.Test.YtaolinlginloaacDoorPq49
import Derived.Deep.RegionHeld3
/-
  Rows by their cells alone, and the marks of the laws.
-/
namespace Go.Proofs.YtaolinlginloaacDoor
open Go.RowKit

/-- A block whose first cells are these. -/
def Flt (t : TypeId) (g : Nat) (xs : List Value) : World → Prop := fun W => ∃ cs : Array Value, W.heap[g]? = some (.cells cs t (0, 0)) ∧ ∀ (i : Nat) (v : Value), xs[i]? = some v → cs[i]? = some v
theorem Flt.loc (t : TypeId) (g : Nat) (xs : List Value) : Loc g (g + 1) (Flt t g xs) := by
  rintro w w' hk ⟨cs, h1, h2⟩
  exact ⟨cs, (hk g (Nat.le_refl _) (by omega)).trans h1, h2⟩
theorem Flt.cell {t : TypeId} {g : Nat} {xs : List Value} {w : World} (h : Flt t g xs w) {k : Nat} {v : Value} (hk : xs[k]? = some v) : w.cell? ⟨g, k, none⟩ = some v := by
  obtain ⟨cs, h1, h2⟩ := h
  rw [cell_of_row _ _ k _ _ _ h1]
  exact h2 k v hk
theorem Flt.frozen {t : TypeId} {g : Nat} {xs : List Value} {w : World} (h : Flt t g xs w) (o : Nat) : w.frozen? ⟨g, o, none⟩ = false := by
  obtain ⟨cs, h1, -⟩ := h
  exact frozen_of_row _ _ o _ _ h1
theorem Flt.below {t : TypeId} {g : Nat} {xs : List Value} {w w' : World} (h : Flt t g xs w) (hb : Below w.heap.size w w') : Flt t g xs w' := by
  have hlt : g < w.heap.size := by obtain ⟨cs, h1, -⟩ := h; exact (Array.getElem?_eq_some_iff.1 h1).1
  exact Flt.loc t g xs w w' (fun q q1 q2 => hb.block q (by omega)) h
theorem Flt.set {t : TypeId} {g : Nat} {xs : List Value} {w : World} (h : Flt t g xs w) (k : Nat) (u : Value) : Flt t g (xs.set k u) (w.setCell ⟨g, k, none⟩ u) := by
  obtain ⟨cs, h1, h2⟩ := h
  refine ⟨cs.setIfInBounds k u, ?_, fun i v hv => ?_⟩
  · rw [setCell_eq_setRow w g k cs t (0, 0) u h1]
    exact setRow_heap w g cs _ t _ h1
  · rw [List.getElem?_set] at hv
    rw [Array.getElem?_setIfInBounds]
    by_cases e : k = i
    · rw [if_pos e] at hv ⊢
      by_cases hl : k < xs.length
      · rw [if_pos hl] at hv
        obtain ⟨x, hx⟩ : ∃ x, xs[k]? = some x := ⟨_, List.getElem?_eq_getElem hl⟩
        have := (Array.getElem?_eq_some_iff.1 (h2 k x hx)).1
        rw [if_pos this]
        exact hv
      · rw [if_neg hl] at hv
        cases hv
    · rw [if_neg e] at hv ⊢
      exact h2 i v hv
/-- Cells are written one behind the other. -/
theorem Flt.step {t : TypeId} {g k : Nat} {xs M : List Value} {w : World} {u : Value} (h : Flt t g (M.take k ++ xs.drop k) w) (hu : M[k]? = some u) (hl : M.length = xs.length) : Flt t g (M.take (k + 1) ++ xs.drop (k + 1)) (w.setCell ⟨g, k, none⟩ u) := by
  obtain ⟨hk, e⟩ := List.getElem?_eq_some_iff.1 hu
  have := h.set k u
  rw [List.set_append_right _ _ (by rw [List.length_take]; omega), List.length_take, Nat.min_eq_left (by omega), Nat.sub_self, List.drop_eq_getElem_cons (by omega), List.set_cons_zero] at this
  rw [List.take_succ_eq_append_getElem hk, e, List.append_assoc]
  exact this
theorem Flt.old {t : TypeId} {g k : Nat} {xs M : List Value} {w : World} {u : Value} (h : Flt t g (M.take k ++ xs.drop k) w) (hu : xs[k]? = some u) (hl : M.length = xs.length) : w.cell? ⟨g, k, none⟩ = some u := by
  obtain ⟨hk, e⟩ := List.getElem?_eq_some_iff.1 hu
  refine h.cell ?_
  rw [List.getElem?_append_right (by rw [List.length_take]; omega), List.length_take, Nat.min_eq_left (by omega), Nat.sub_self, List.getElem?_drop]
  simpa using hu

/-- A slice of n elements, whose cells are these, in a block from lo on and below hi. -/
def Sli (t : TypeId) (lo hi : Nat) (v : Value) (n : Nat) (xs : List Value) : World → Prop := fun W => (v = .slice none 0 0 ∧ n = 0) ∨ ∃ g cap, v = .slice (some ⟨g, 0, none⟩) n cap ∧ lo ≤ g ∧ g < hi ∧ Flt t g xs W
theorem Sli.loc (t : TypeId) (lo hi : Nat) (v : Value) (n : Nat) (xs : List Value) : Loc lo hi (Sli t lo hi v n xs) := by
  rintro w w' hk (h | ⟨g, cap, h1, h2, h3, h4⟩)
  · exact Or.inl h
  · exact Or.inr ⟨g, cap, h1, h2, h3, Flt.loc t g xs w w' (fun q q1 q2 => hk q (by omega) (by omega)) h4⟩
theorem Sli.form {t : TypeId} {lo hi n : Nat} {v : Value} {xs : List Value} {w : World} (h : Sli t lo hi v n xs w) : ∃ ad cap, v = .slice ad n cap ∧ (0 < n → ∃ g, ad = some ⟨g, 0, none⟩ ∧ lo ≤ g ∧ g < hi) := by
  rcases h with ⟨h1, h2⟩ | ⟨g, cap, h1, h2, h3, -⟩
  · exact ⟨none, 0, by rw [h1, h2], fun h => by omega⟩
  · exact ⟨_, cap, h1, fun _ => ⟨g, rfl, h2, h3⟩⟩
theorem Sli.flt {t : TypeId} {lo hi n g cap : Nat} {xs : List Value} {w : World} (h : Sli t lo hi (.slice (some ⟨g, 0, none⟩) n cap) n xs w) : Flt t g xs w := by
  rcases h with ⟨h1, -⟩ | ⟨g', cap', h1, -, -, h4⟩
  · cases h1
  · injection h1 with a
    injection a with a
    injection a with a
    subst a
    exact h4
theorem Sli.of {t : TypeId} {size lo n : Nat} {v : Value} {xs : List Value} {w : World} (h : w.ownsRow lo t size v n xs) : Sli t lo w.heap.size v n xs w := by
  have hlt := h.lt
  rcases h.2 with ⟨h1, h2⟩ | ⟨g, cap, cur, rfl, h2, h3, h4, h5, h6, h7⟩
  · exact Or.inl ⟨h1, h2⟩
  · refine Or.inr ⟨g, cap, rfl, h2, (hlt g rfl).2, cur, h3, fun i x hx => ?_⟩
    rw [← h7] at hx
    obtain ⟨h8, h9⟩ := List.getElem?_eq_some_iff.1 hx
    rw [List.getElem_take] at h9
    rw [List.length_take] at h8
    rw [← Array.getElem?_toList, List.getElem?_eq_some_iff]
    exact ⟨by omega, h9⟩

/-- The mark of one cell: a number, or a text. -/
def mkv (s : Bool) (k : Nat) : Value := if s then .string ⟨(markL k).toArray⟩ else .int .i64 (k : Int)
/-- The marks of n elements of one make. -/
def mkFlat (pat : List Bool) (k0 n : Nat) : List Value := (List.range (n * pat.length)).map (fun i => mkv (pat.getD (i % pat.length) false) (k0 + i))
theorem mkFlat_len (pat : List Bool) (k0 n : Nat) : (mkFlat pat k0 n).length = n * pat.length := by simp [mkFlat]
theorem mkFlat_at (pat : List Bool) (k0 n i j : Nat) (s : Bool) (hi : i < n) (hs : pat[j]? = some s) : (mkFlat pat k0 n)[i * pat.length + j]? = some (mkv s (k0 + (i * pat.length + j))) := by
  have hj := (List.getElem?_eq_some_iff.1 hs).1
  have hlt : i * pat.length + j < n * pat.length := by
    have : (i + 1) * pat.length ≤ n * pat.length := Nat.mul_le_mul_right _ (by omega)
    rw [Nat.succ_mul] at this
    omega
  have hm : (i * pat.length + j) % pat.length = j := by
    rw [Nat.add_comm, Nat.add_mul_mod_self_right]
    exact Nat.mod_eq_of_lt hj
  simp only [mkFlat, List.getElem?_map, List.getElem?_range hlt, Option.map_some, hm, List.getD_eq_getElem?_getD, hs, Option.getD_some]
end Go.Proofs.YtaolinlginloaacDoor

/-
  Rows of what scans found, by their cells.
-/
namespace Go.Proofs.YtaolinlginloaacDoor
open Go.RowKit
open Words Sums

theorem FRes.sli {w : World} {B : Nat} {u : Value} {M : List Fnd} (h : FRes w B u M) : Sli 54 B w.heap.size u M.length (fcells M) w := by
  rcases h with ⟨rfl, rfl⟩ | ⟨g, cap, rfl, hg, hs, -⟩
  · exact Or.inl ⟨rfl, rfl⟩
  · refine Or.inr ⟨g, cap, rfl, hg, hs.lt, ?_⟩
    obtain ⟨cs, h1, h2⟩ := hs
    refine ⟨cs, h1, fun i v hv => ?_⟩
    obtain ⟨x, hx, hj⟩ := fcells_back M i v hv
    have := h2 (i / 8) x hx (i % 8) v hj
    rw [show i / 8 * 8 + i % 8 = i by omega] at this
    exact this
theorem foundsAt_page {bs : List Bk} {b : Nat} : ∀ {k : Nat} {x : Fnd}, x ∈ foundsAt bs b k → leafPg bs x.block x.leaf = some x.page
  | 0, x, h => by cases h
  | k + 1, x, h => by
    simp only [foundsAt, List.mem_append] at h
    rcases h with h | h
    · exact foundsAt_page h
    · cases hp : leafPg bs b k with
      | none => rw [hp] at h; cases h
      | some p =>
        rw [hp] at h
        simp only [List.mem_singleton] at h
        subst h
        exact hp
/-- What was found reads as its page. -/
theorem founds_page {bs : List Bk} : ∀ {b : Nat} {x : Fnd}, x ∈ founds bs b → leafPg bs x.block x.leaf = some x.page
  | 0, x, h => by cases h
  | b + 1, x, h => by
    simp only [founds, List.mem_append] at h
    rcases h with h | h
    · exact founds_page h
    · exact foundsAt_page h
end Go.Proofs.YtaolinlginloaacDoor

/-
  spec.ReadLeaf.
-/
namespace Go.Proofs.YtaolinlginloaacDoor
open Go.RowKit

set_option maxHeartbeats 400000 in
set_option maxRecDepth 100000 in
theorem sread_rd (v : Value) (rs : List Rw) (b leaf : Int) (w : World) (hl : rs.length ≤ 1048576) (hll : ∀ r ∈ rs, r.2.2.2.length ≤ 1048576) (ha : FlashRd w v rs) :
    Calls Tryd.prog 29 #[.agg #[v], .int .i64 b, .int .i64 leaf] w fun e w' => e = .returned (.tuple #[.string (readF (rs.map tellOf) b leaf).1, .bool (readF (rs.map tellOf) b leaf).2]) ∧ Below w.heap.size w w' := by
  have h1 := ha
  obtain ⟨vd, vcap, rfl, -⟩ := h1
  have HLL := hide hll
  have HB0 := hide ((Below.refl w.heap.size w).alloc (Nat.le_refl _) (.cells #[.slice vd rs.length vcap] 48))
  have HA := hide (ha.below HB0.out)
  have r0 := heap_alloc_new w (.cells #[.slice vd rs.length vcap] 48)
  have k0 : (w.alloc (.cells #[.slice vd rs.length vcap] 48)).cell? ⟨w.heap.size, 0, none⟩ = some (.slice vd rs.length vcap) := cell_of_row _ _ 0 _ _ _ r0
  have K0 := hide k0
  have hw1 : IntKind.i64.wrap ((rs.length : Int) - 1) = (rs.length : Int) - 1 := by rw [IntKind.wrap_i64]; omega
  clear ha hll r0 k0
  go_enter Tryd.func29, Tryd.ntmps29
  go_wp2_with fail
  refine (sin_any b 0 ((rs.length : Int) - 1) _).mono ?_
  rintro e w2 ⟨rfl, rfl⟩
  generalize w.alloc (.cells #[.slice vd rs.length vcap] 48) = w2 at HB0 HA K0 ⊢
  have k0 := K0.out
  by_cases hb : 0 ≤ b ∧ b ≤ (rs.length : Int) - 1
  · rw [decide_eq_true hb]
    obtain ⟨k, rfl⟩ : ∃ k : Nat, b = k := ⟨b.toNat, by omega⟩
    have hkl : k < rs.length := by omega
    have hr : rs[k]? = some rs[k] := List.getElem?_eq_getElem hkl
    generalize rs[k] = r at hr
    have hmem := List.mem_of_getElem? hr
    have hrl := HLL.out r hmem
    obtain ⟨g, eg, ⟨c1, c2, c3⟩, hlf⟩ := HA.out.at hr
    subst eg
    have HBR : Hid ((rs.map tellOf)[k]? = some (tellOf r)) := by show _ = _; rw [List.getElem?_map, hr]; rfl
    obtain ⟨x, y, u, ls⟩ := r
    simp only at c1 c2 c3
    simp only at hlf hrl
    obtain ⟨ld, capl, rfl, -, l3⟩ := hlf
    have L3 := hide l3
    have kk0 : (0 : Int) ≤ k := by omega
    have kk1 : (k : Int) < rs.length := by omega
    have hw2 : IntKind.i64.wrap ((ls.length : Int) - 1) = (ls.length : Int) - 1 := by rw [IntKind.wrap_i64]; omega
    clear hr hmem l3 c1 c2 hb
    go_wp2_with fail
    refine (sin_any leaf 0 ((ls.length : Int) - 1) _).mono ?_
    rintro e w3 ⟨rfl, rfl⟩
    by_cases hf : 0 ≤ leaf ∧ leaf ≤ (ls.length : Int) - 1
    · rw [decide_eq_true hf]
      obtain ⟨j, rfl⟩ : ∃ j : Nat, leaf = j := ⟨leaf.toNat, by omega⟩
      have hjl : j < ls.length := by omega
      obtain ⟨z, t, ht⟩ : ∃ z t, ls[j]? = some (z, t) := ⟨ls[j].1, ls[j].2, List.getElem?_eq_getElem hjl⟩
      obtain ⟨gl, lo, el, d1, d2⟩ := L3.out j (z, t) ht
      subst el
      simp only at d1 d2
      have RI := hide (read_in (t := (z, t)) HBR.out ht)
      have j0 : (0 : Int) ≤ j := by omega
      have j1 : (j : Int) < ls.length := by omega
      clear ht hf
      by_cases hz : z = 1
      · have HP : Hid (readF (rs.map tellOf) (k : Int) (j : Int) = (t, true)) := RI.out.1 hz
        have e1 : (z != 1) = false := by simp [hz]
        clear hz
        go_wp2
        go_ret2
        exact ⟨by rw [HP.out]; rfl, HB0.out⟩
      · have HP : Hid (readF (rs.map tellOf) (k : Int) (j : Int) = (⟨#[]⟩, false)) := RI.out.2 hz
        have e1 : (z != 1) = true := by simp [hz]
        clear hz
        go_wp2
        go_ret2
        exact ⟨by rw [HP.out]; rfl, HB0.out⟩
    · rw [decide_eq_false hf]
      have HP : Hid (readF (rs.map tellOf) (k : Int) leaf = (⟨#[]⟩, false)) := read_leaf_out HBR.out hf
      clear hf
      go_wp2
      go_ret2
      exact ⟨by rw [HP.out]; rfl, HB0.out⟩
  · rw [decide_eq_false hb]
    have HP : Hid (readF (rs.map tellOf) b leaf = (⟨#[]⟩, false)) := read_out (by rw [List.length_map]; exact hb)
    clear hb
    go_wp2
    go_ret2
    exact ⟨by rw [HP.out]; rfl, HB0.out⟩
theorem sread_any (v : Value) (rs : List Rw) (lo hi : Nat) (b leaf : Int) (w : World) (hl : rs.length ≤ 1048576) (hll : ∀ r ∈ rs, r.2.2.2.length ≤ 1048576) (_hh : hi ≤ w.heap.size) (ha : FlashIn w lo hi v rs) :
    Calls Tryd.prog 29 #[.agg #[v], .int .i64 b, .int .i64 leaf] w fun e w' => e = .returned (.tuple #[.string (readF (rs.map tellOf) b leaf).1, .bool (readF (rs.map tellOf) b leaf).2]) ∧ Below w.heap.size w w' := sread_rd v rs b leaf w hl hll ha.rd
end Go.Proofs.YtaolinlginloaacDoor
