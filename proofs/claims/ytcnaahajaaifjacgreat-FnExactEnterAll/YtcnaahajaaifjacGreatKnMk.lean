/-
  Rows of numbers and of knots: marked, held.
-/
import Derived.Test.YtcnaahajaaifjacGreatPk2
import Derived.Test.YtcnaahajaaifjacGreatPk0
namespace Go.Proofs.YtcnaahajaaifjacGreat
open Go.RowKit
open Words

def patI : List Bool := [false]
theorem mkI_at (k0 n i : Nat) (h : i < n) : (mkFlat patI k0 n)[i]? = some (.int .i64 ((k0 + i : Nat) : Int)) := by
  have := mkFlat_at patI k0 n i 0 false h rfl
  simpa [patI, mkv] using this
set_option maxHeartbeats 400000 in
set_option maxRecDepth 100000 in
theorem markIs_any (lo hi : Nat) (a : Value) (n k0 : Nat) (xs : List Value) (w : World) (hn : n ≤ 1000000000) (hxs : xs.length = n) (hk0 : 0 < k0) (hk1 : k0 ≤ 100000000000) (ha : Sli 3 lo hi a n xs w) :
    Calls Tryz.prog 72 #[a, .int .i64 (k0 : Int)] w fun e w' => e = .returned (.int .i64 ((k0 + n : Nat) : Int)) ∧ Hid (Sli 3 lo hi a n (mkFlat patI k0 n) w') ∧ Hid (Kept2 w w' (fun i => a.ownBlock ≠ some i)) := by
  obtain ⟨ad, ca, rfl, a3⟩ := ha.form
  have A3 := hide a3
  obtain ⟨M, hM⟩ : ∃ M, mkFlat patI k0 n = M := ⟨_, rfl⟩
  have HML : Hid (M.length = xs.length) := by show _ = _; rw [← hM, mkFlat_len, hxs]; simp [patI]
  have HMA : Hid (∀ i : Nat, i < n → M[i]? = some (.int .i64 ((k0 + i : Nat) : Int))) := by
    intro i h1
    rw [← hM]
    exact mkI_at k0 n i h1
  have HXS := hide hxs
  have HA := hide ha
  have F00 : Hid (∀ g, ad = some ⟨g, 0, none⟩ → Flt 3 g (M.take 0 ++ xs.drop 0) w) := by
    rintro g rfl
    have := ha.flt
    simpa using this
  rw [hM]
  clear ha a3 hxs hM
  go_enter Tryz.func72, Tryz.ntmps72
  go_wp2
  go_loopw [1, 5] (fun mv iv wr => ∃ i m : Nat, i ≤ n ∧ iv = .int .i64 i ∧ mv = .int .i64 m ∧ m ≤ 200000000000 ∧ Hid (m = k0 + i) ∧ Hid (∀ g, ad = some ⟨g, 0, none⟩ → Flt 3 g (M.take i ++ xs.drop i) wr) ∧ Hid (Kept2 w wr (fun i => (Value.slice ad n ca).ownBlock ≠ some i))) (fun _ iv _ => n - (intOf iv).toNat)
  case atStart => exact ⟨0, k0, Nat.zero_le _, rfl, rfl, by omega, (by show _ = _; omega), F00, Kept2.refl _ _⟩
  case round =>
    obtain ⟨i, m, hin, rfl, rfl, hm, HM, HF, HK⟩ := hrel
    clear F00
    by_cases hlt : (i : Int) < n
    · obtain ⟨g, e, g1, g2⟩ := A3.out (by omega)
      subst e
      have i0 : (0 : Int) ≤ i := by omega
      have F0 := hide (HF.out g rfl)
      obtain ⟨m1, e1⟩ : ∃ m1 : Nat, m1 = m + 1 := ⟨_, rfl⟩
      have ei1 : (m : Int) + 1 = m1 := by omega
      have hm2 : m1 ≤ 200000000000 := by have := HM.out; omega
      have E1 := hide e1
      clear e1
      obtain ⟨u0, hu0⟩ : ∃ u, xs[i]? = some u := ⟨_, List.getElem?_eq_getElem (by have := HXS.out; omega)⟩
      have c0 : wr.cell? ⟨g, i, none⟩ = some u0 := F0.out.old hu0 HML.out
      have f0 := F0.out.frozen i
      have F1 : Hid (∀ g', some (⟨g, 0, none⟩ : Addr) = some ⟨g', 0, none⟩ → Flt 3 g' (M.take (i + 1) ++ xs.drop (i + 1)) (wr.setCell ⟨g, i, none⟩ (.int .i64 (m : Int)))) := by
        intro g' e
        injection e with e
        injection e with e
        subst e
        refine F0.out.step ?_ HML.out
        have h1 := HMA.out i (by omega)
        rw [show k0 + i = m by have := HM.out; omega] at h1
        exact h1
      have K1 : Hid (Kept2 w (wr.setCell ⟨g, i, none⟩ (.int .i64 (m : Int))) (fun i => (Value.slice (some ⟨g, 0, none⟩) n ca).ownBlock ≠ some i)) := HK.out.trans ⟨rfl, rfl, rfl, by simp, fun q _ hne => Below.heap_setCell _ _ _ _ (fun (e : q = g) => hne (by rw [e]; rfl))⟩
      clear F0 HF HK hu0
      go_wp2
      go_roundw
      case rel => exact ⟨i + 1, m1, by omega, by go_num, by first | rfl | go_num, hm2, (by show _ = _; have := E1.out; have := HM.out; omega), F1, K1⟩
      case measure => simp [intOf]; omega
    · have hi2 : i = n := by omega
      subst hi2
      have R : Hid (Sli 3 lo hi (.slice ad i ca) i M wr) := by
        rcases HA.out with ⟨h1, h2⟩ | ⟨g, cap, h1, h2, h3, -⟩
        · exact Or.inl ⟨h1, h2⟩
        · injection h1 with e1 e2 e3
          subst e1 e3
          have h4 := HF.out g rfl
          rw [List.take_of_length_le (by have := HML.out; have := HXS.out; omega), List.drop_of_length_le (by have := HXS.out; omega), List.append_nil] at h4
          exact Or.inr ⟨g, ca, rfl, h2, h3, h4⟩
      have HE : Hid ((m : Int) = ((k0 + i : Nat) : Int)) := (by show _ = _; rw [HM.out])
      clear HF
      go_wp2
      go_ret
      exact ⟨congrArg (fun x => Ending.returned (.int .i64 x)) HE.out, R, HK⟩
set_option maxHeartbeats 400000 in
set_option maxRecDepth 100000 in
theorem heldIs_any (lo hi : Nat) (a : Value) (n k0 : Nat) (w : World) (hn : n ≤ 1000000000) (hk0 : 0 < k0) (hk1 : k0 ≤ 100000000000) (ha : Sli 3 lo hi a n (mkFlat patI k0 n) w) :
    Calls Tryz.prog 73 #[a, .int .i64 (k0 : Int)] w fun e w' => e = .returned (.int .i64 ((k0 + n : Nat) : Int)) ∧ Below w.heap.size w w' := by
  obtain ⟨ad, ca, rfl, a3⟩ := ha.form
  have A3 := hide a3
  have HMA : Hid (∀ (g i : Nat) (W : World), ad = some ⟨g, 0, none⟩ → Below w.heap.size w W → i < n → W.cell? ⟨g, i, none⟩ = some (.int .i64 ((k0 + i : Nat) : Int))) := by
    rintro g i W rfl hW h1
    exact (ha.flt.below hW).cell (mkI_at k0 n i h1)
  clear ha a3
  go_enter Tryz.func73, Tryz.ntmps73
  go_wp2
  go_loopw [1, 5] (fun mv iv wr => ∃ i m : Nat, i ≤ n ∧ iv = .int .i64 i ∧ mv = .int .i64 m ∧ m ≤ 200000000000 ∧ Hid (m = k0 + i) ∧ Hid (Below w.heap.size w wr)) (fun _ iv _ => n - (intOf iv).toNat)
  case atStart => exact ⟨0, k0, Nat.zero_le _, rfl, rfl, by omega, (by show _ = _; omega), Below.refl _ _⟩
  case round =>
    obtain ⟨i, m, hin, rfl, rfl, hm, HM, HW0⟩ := hrel
    by_cases hlt : (i : Int) < n
    · obtain ⟨g, e, g1, g2⟩ := A3.out (by omega)
      subst e
      have i0 : (0 : Int) ≤ i := by omega
      obtain ⟨m1, e1⟩ : ∃ m1 : Nat, m1 = m + 1 := ⟨_, rfl⟩
      have ei1 : (m : Int) + 1 = m1 := by omega
      have hm2 : m1 ≤ 200000000000 := by have := HM.out; omega
      have E1 := hide e1
      clear e1
      have c0 : wr.cell? ⟨g, i, none⟩ = some (.int .i64 (m : Int)) := by
        have h1 := HMA.out g i wr rfl HW0.out (by omega)
        rw [show k0 + i = m by have := HM.out; omega] at h1
        exact h1
      have n0 : ((m : Int) != (m : Int)) = false := by simp
      go_wp2
      go_roundw
      case rel => exact ⟨i + 1, m1, by omega, by go_num, by first | rfl | go_num, hm2, (by show _ = _; have := E1.out; have := HM.out; omega), HW0⟩
      case measure => simp [intOf]; omega
    · have hi2 : i = n := by omega
      have HE : Hid ((m : Int) = ((k0 + n : Nat) : Int)) := (by show _ = _; rw [HM.out, hi2])
      clear hi2
      go_wp2
      go_ret
      exact ⟨congrArg (fun x => Ending.returned (.int .i64 x)) HE.out, HW0.out⟩

/-- A knot in a row, by the cells of its children. -/
abbrev Vw := Bool × Value × Nat × List Value
def vcell (t : Vw) : List Value := [.bool t.1, t.2.1]
def vcells (l : List Vw) : List Value := l.flatMap vcell
theorem vcells_len (l : List Vw) : (vcells l).length = l.length * 2 := by
  induction l with
  | nil => rfl
  | cons t l ih => simp [vcells, vcell] at ih ⊢; omega
theorem vcells_cons (t : Vw) (l : List Vw) : vcells (t :: l) = vcell t ++ vcells l := by simp [vcells]
theorem vcells_at (l : List Vw) (k : Nat) (t : Vw) (h : l[k]? = some t) (j : Nat) (v : Value) (hj : (vcell t)[j]? = some v) : (vcells l)[k * 2 + j]? = some v := by
  have hlt : j < 2 := (List.getElem?_eq_some_iff.1 hj).1
  induction l generalizing k with
  | nil => simp at h
  | cons a l ih =>
    rw [vcells_cons]
    cases k with
    | zero =>
      simp at h
      subst h
      rw [List.getElem?_append_left (by show _ < 2; omega), Nat.zero_mul, Nat.zero_add]
      exact hj
    | succ k =>
      rw [List.getElem?_append_right (by show 2 ≤ _; omega), show (k + 1) * 2 + j - (vcell a).length = k * 2 + j by show _ - 2 = _; omega]
      exact ih k (by simpa using h)
theorem vcells_set (l : List Vw) (k : Nat) (t : Vw) (h : l[k]? = some t) (a : Bool) (n : Nat) (xs : List Value) : (vcells l).set (k * 2) (.bool a) = vcells (l.set k (a, t.2.1, n, xs)) := by
  induction l generalizing k with
  | nil => simp at h
  | cons c l ih =>
    cases k with
    | zero =>
      simp at h
      subst h
      simp [vcells_cons, vcell]
    | succ k =>
      have := ih k (by simpa using h)
      rw [List.set_cons_succ, vcells_cons, vcells_cons, ← this, List.set_append_right _ _ (by show 2 ≤ _; omega)]
      congr 2
      show (k + 1) * 2 - 2 = _; omega
/-- Such a row in the blocks lo to hi. -/
def VLone (ys : List Vw) : Prop := ys.Pairwise (fun a b => ∀ g, a.2.1.ownBlock = some g → b.2.1.ownBlock ≠ some g)
def VIn (lo hi : Nat) (v : Value) (ys : List Vw) (W : World) : Prop :=
  Sli 84 lo hi v ys.length (vcells ys) W ∧ (∀ y ∈ ys, Sli 3 lo hi y.2.1 y.2.2.1 y.2.2.2 W) ∧ VLone ys
theorem VIn.loc (lo hi : Nat) (v : Value) (ys : List Vw) : Loc lo hi (VIn lo hi v ys) := by
  intro w w' hk h
  exact ⟨Sli.loc _ _ _ _ _ _ w w' hk h.1, fun r hr => Sli.loc _ _ _ _ _ _ w w' hk (h.2.1 r hr), h.2.2⟩
def vOf (t : Kw) : Vw := (t.1, t.2.1, t.2.2.length, icells t.2.2)
theorem KIn.v {lo hi : Nat} {v : Value} {rs : List Kw} {W : World} (h : KIn lo hi v rs W) : VIn lo hi v (rs.map vOf) W := by
  obtain ⟨h1, h2, h3, -⟩ := h
  have ec : vcells (rs.map vOf) = kncells rs := by unfold vcells kncells; rw [List.flatMap_map]; rfl
  refine ⟨by rw [List.length_map, ec]; exact h1, ?_, ?_⟩
  · intro y hy
    obtain ⟨r, hr, rfl⟩ := List.mem_map.1 hy
    exact (h2 r hr).1
  · unfold VLone
    rw [List.pairwise_map]
    exact h3
theorem vlone_get {ys : List Vw} (h : VLone ys) {i j : Nat} {a b : Vw} (hij : i ≠ j) (ha : ys[i]? = some a) (hb : ys[j]? = some b) : ∀ g, a.2.1.ownBlock = some g → b.2.1.ownBlock ≠ some g := by
  intro g e1 e2
  have h' := List.pairwise_iff_getElem.1 h
  obtain ⟨ia, ea⟩ := List.getElem?_eq_some_iff.1 ha
  obtain ⟨jb, eb⟩ := List.getElem?_eq_some_iff.1 hb
  rcases Nat.lt_or_gt_of_ne hij with q | q
  · exact h' i j ia jb q g (by rw [ea]; exact e1) (by rw [eb]; exact e2)
  · exact h' j i jb ia q g (by rw [eb]; exact e2) (by rw [ea]; exact e1)
theorem vlone_set {ys : List Vw} (h : VLone ys) {j : Nat} {y y' : Vw} (hj : ys[j]? = some y) (hv : y'.2.1 = y.2.1) : VLone (ys.set j y') := by
  unfold VLone at *
  have : (ys.set j y').map (fun t => t.2.1) = ys.map (fun t => t.2.1) := by
    rw [List.map_set, hv]
    apply List.ext_getElem?
    intro i
    rw [List.getElem?_set]
    split
    · rename_i e
      subst e
      obtain ⟨hl, he⟩ := List.getElem?_eq_some_iff.1 hj
      simp [hl, he]
    · rfl
  have e : ∀ l : List Vw, l.Pairwise (fun a b => ∀ g, a.2.1.ownBlock = some g → b.2.1.ownBlock ≠ some g) ↔ (l.map (fun t => t.2.1)).Pairwise (fun a b => ∀ g, a.ownBlock = some g → b.ownBlock ≠ some g) := fun l => by rw [List.pairwise_map]
  rw [e, this, ← e]
  exact h
theorem int_kn_ne {lo hi lo' hi' n m : Nat} {v u : Value} {xs zs : List Value} {W : World} (h1 : Sli 84 lo hi v n xs W) (h2 : Sli 3 lo' hi' u m zs W) : ∀ g, v.ownBlock = some g → u.ownBlock ≠ some g := by
  intro g e1 e2
  obtain ⟨-, -, cs, q⟩ := h1.lt g e1
  obtain ⟨-, -, cs', q'⟩ := h2.lt g e2
  exact int_ne_kn q' q
/-- Whether an element is a leaf is written. -/
theorem VIn.flag {lo hi g n cap : Nat} {ys : List Vw} {W : World} (h : VIn lo hi (.slice (some ⟨g, 0, none⟩) n cap) ys W) (hn : ys.length = n) {j : Nat} {y : Vw} (hj : ys[j]? = some y) (a : Bool) :
    VIn lo hi (.slice (some ⟨g, 0, none⟩) n cap) (ys.set j (a, y.2.1, y.2.2.1, y.2.2.2)) (W.setCell ⟨g, j * 2, none⟩ (.bool a)) := by
  obtain ⟨h1, h2, h3⟩ := h
  rw [hn] at h1
  refine ⟨?_, ?_, vlone_set h3 hj rfl⟩
  · rcases h1 with ⟨e, -⟩ | ⟨g', cap', e, q1, q2, q3⟩
    · cases e
    · injection e with e1 e2 e3
      injection e1 with e1
      injection e1 with e1
      subst e1
      subst e3
      refine .inr ⟨g, cap, by rw [List.length_set, hn], q1, q2, ?_⟩
      have := q3.set (j * 2) (.bool a)
      rw [vcells_set ys j y hj a y.2.2.1 y.2.2.2] at this
      exact this
  · intro z hz
    have hz2 : Sli 3 lo hi z.2.1 z.2.2.1 z.2.2.2 W := by
      rcases List.mem_or_eq_of_mem_set hz with e | e
      · exact h2 z e
      · subst e; exact h2 y (List.mem_of_getElem? hj)
    have hne := int_kn_ne h1 hz2 g rfl
    exact hz2.grown (grown_cell W g (j * 2) (.bool a)) (fun g' e e2 => hne (by cases e2; exact e))
theorem Sli.kept3 {t : TypeId} {lo hi n : Nat} {v : Value} {xs : List Value} {w w' : World} {ok : Nat → Prop} (h : Sli t lo hi v n xs w) (hk : Kept2 w w' ok) (ho : ∀ g, v.ownBlock = some g → ok g) : Sli t lo hi v n xs w' := by
  rcases h with h | ⟨g, cap, rfl, h1, h2, cs, h3, h4⟩
  · exact .inl h
  · exact .inr ⟨g, cap, rfl, h1, h2, cs, (hk.2.2.2.2 g (Array.getElem?_eq_some_iff.1 h3).1 (ho g rfl)).trans h3, h4⟩
/-- The children of an element are written. -/
theorem VIn.inner {lo hi n cap : Nat} {ad : Option Addr} {ys : List Vw} {W W' : World} (h : VIn lo hi (.slice ad n cap) ys W) {j : Nat} {y : Vw} (hj : ys[j]? = some y) (xs : List Value) (hk : Kept2 W W' (fun i => y.2.1.ownBlock ≠ some i)) (hs : Sli 3 lo hi y.2.1 y.2.2.1 xs W') :
    VIn lo hi (.slice ad n cap) (ys.set j (y.1, y.2.1, y.2.2.1, xs)) W' := by
  obtain ⟨h1, h2, h3⟩ := h
  have hy := h2 y (List.mem_of_getElem? hj)
  refine ⟨?_, ?_, vlone_set h3 hj rfl⟩
  · have e : vcells (ys.set j (y.1, y.2.1, y.2.2.1, xs)) = vcells ys := by
      unfold vcells
      rw [List.flatMap_def, List.flatMap_def, List.map_set]
      congr 1
      apply List.ext_getElem?
      intro i
      rw [List.getElem?_set]
      split
      · rename_i e
        subst e
        obtain ⟨hl, he⟩ := List.getElem?_eq_some_iff.1 hj
        simp [hl, he, vcell]
      · rfl
    rw [e, List.length_set]
    exact h1.kept3 hk (fun g e1 e2 => int_kn_ne h1 hy g e1 e2)
  · intro z hz
    obtain ⟨i, hi⟩ := List.mem_iff_getElem?.1 hz
    rw [List.getElem?_set] at hi
    split at hi
    · rename_i e
      subst e
      rw [if_pos (List.getElem?_eq_some_iff.1 hj).1] at hi
      cases hi
      exact hs
    · rename_i e
      exact (h2 z (List.mem_of_getElem? hi)).kept3 hk (fun g e1 e2 => vlone_get h3 (fun q => e q.symm) hi hj g e1 e2)

/-- Whether a mark is one of a leaf. -/
def lfm (k : Nat) : Bool := ((k : Int) % 3 == 0)
/-- Marks over the elements. -/
def vmk : Nat → List Vw → List Vw
  | _, [] => []
  | k, y :: ys => (lfm k, y.2.1, y.2.2.1, mkFlat patI (k + 1) y.2.2.1) :: vmk (k + 1 + y.2.2.1) ys
def vend : Nat → List Vw → Nat
  | k, [] => k
  | k, y :: ys => vend (k + 1 + y.2.2.1) ys
theorem vmk_len : ∀ (ys : List Vw) (k : Nat), (vmk k ys).length = ys.length := by
  intro ys
  induction ys with
  | nil => intro k; rfl
  | cons y ys ih => intro k; simp [vmk, ih]
theorem vend_app : ∀ (a : List Vw) (b : List Vw) (k : Nat), vend k (a ++ b) = vend (vend k a) b := by
  intro a
  induction a with
  | nil => intro b k; rfl
  | cons y a ih => intro b k; simp only [List.cons_append, vend, ih]
theorem vmk_app : ∀ (a : List Vw) (b : List Vw) (k : Nat), vmk k (a ++ b) = vmk k a ++ vmk (vend k a) b := by
  intro a
  induction a with
  | nil => intro b k; rfl
  | cons y a ih => intro b k; simp only [List.cons_append, vmk, vend, ih]
theorem vend_le : ∀ (ys : List Vw) (k : Nat), k ≤ vend k ys := by
  intro ys
  induction ys with
  | nil => intro k; exact Nat.le_refl _
  | cons y ys ih => intro k; have := ih (k + 1 + y.2.2.1); simp only [vend]; omega
theorem vend_take (ys : List Vw) (k j : Nat) : vend k (ys.take j) ≤ vend k ys := by
  have : vend k ys = vend (vend k (ys.take j)) (ys.drop j) := by rw [← vend_app, List.take_append_drop]
  rw [this]
  exact vend_le _ _
theorem vend_succ {ys : List Vw} {k j : Nat} {y : Vw} (h : ys[j]? = some y) : vend k (ys.take (j + 1)) = vend k (ys.take j) + 1 + y.2.2.1 := by
  rw [List.take_add_one, h, vend_app]
  rfl
theorem vmk_at {ys : List Vw} {k j : Nat} {y : Vw} (h : ys[j]? = some y) : (vmk k ys)[j]? = some (lfm (vend k (ys.take j)), y.2.1, y.2.2.1, mkFlat patI (vend k (ys.take j) + 1) y.2.2.1) := by
  have hl := (List.getElem?_eq_some_iff.1 h).1
  have e : ys = ys.take j ++ (y :: ys.drop (j + 1)) := by
    have := List.take_append_drop j ys
    rw [List.drop_eq_getElem_cons hl, (List.getElem?_eq_some_iff.1 h).2] at this
    exact this.symm
  have hlm : (vmk k (ys.take j)).length = j := by rw [vmk_len, List.length_take]; omega
  conv => lhs; rw [e, vmk_app]
  rw [List.getElem?_append_right (by omega), hlm, Nat.sub_self]
  rfl
theorem vmk_set {ys : List Vw} {k j : Nat} {y : Vw} (h : ys[j]? = some y) :
    (vmk k (ys.take j) ++ ys.drop j).set j (lfm (vend k (ys.take j)), y.2.1, y.2.2.1, mkFlat patI (vend k (ys.take j) + 1) y.2.2.1) = vmk k (ys.take (j + 1)) ++ ys.drop (j + 1) := by
  have hl := (List.getElem?_eq_some_iff.1 h).1
  have hlm : (vmk k (ys.take j)).length = j := by rw [vmk_len, List.length_take]; omega
  rw [List.set_append_right _ _ (by omega), hlm, Nat.sub_self, List.drop_eq_getElem_cons hl, List.set_cons_zero, List.take_add_one, h, vmk_app]
  simp [vmk]

set_option maxHeartbeats 1000000 in
set_option maxRecDepth 100000 in
theorem markKns_any (lo hi : Nat) (a : Value) (ys : List Vw) (w : World) (hl : ys.length ≤ 1048580) (hll : ∀ y ∈ ys, y.2.2.1 ≤ 1048576 ∧ y.2.2.2.length = y.2.2.1) (he : vend 1 ys ≤ 1000000000) (ha : VIn lo hi a ys w) :
    Calls Tryz.prog 51 #[a, .int .i64 1] w fun e w' => e = .returned (.int .i64 ((vend 1 ys : Nat) : Int)) ∧ Hid (VIn lo hi a (vmk 1 ys) w') ∧ Hid (Kept2 w w' (Apt lo hi)) := by
  obtain ⟨ad, ca, rfl, a3⟩ := ha.1.form
  have A3 := hide a3
  have HA := hide ha
  have HLL := hide hll
  have HE := hide he
  clear a3 ha hll he
  obtain ⟨n, hn⟩ : ∃ n, ys.length = n := ⟨_, rfl⟩
  have HN := hide hn
  rw [hn] at hl A3 HA ⊢
  clear hn
  go_enter Tryz.func51, Tryz.ntmps51
  go_wp2
  go_loopw [1, 5] (fun kv iv wr => ∃ j p : Nat, j ≤ n ∧ iv = .int .i64 j ∧ kv = .int .i64 (p : Int) ∧ Hid (p = vend 1 (ys.take j)) ∧ Hid (VIn lo hi (.slice ad n ca) (vmk 1 (ys.take j) ++ ys.drop j) wr) ∧ Hid (Kept2 w wr (Apt lo hi))) (fun _ iv _ => n - (intOf iv).toNat)
  case atStart => exact ⟨0, 1, Nat.zero_le _, rfl, rfl, rfl, HA, Kept2.refl _ _⟩
  case round =>
    obtain ⟨j, p, hj, rfl, rfl, HP, HO, HW⟩ := hrel
    have hp0 : 0 < p := by have := vend_le (ys.take j) 1; have := HP.out; omega
    have hp1 : p ≤ 1000000000 := by have := vend_take ys 1 j; have := HP.out; have := HE.out; omega
    by_cases hlt : (j : Int) < n
    · obtain ⟨ga, e, g1, g2⟩ := A3.out (by omega)
      subst e
      have hjl : j < ys.length := by have := HN.out; omega
      obtain ⟨y, hy⟩ : ∃ y, ys[j]? = some y := ⟨_, List.getElem?_eq_getElem hjl⟩
      have hlm : (vmk 1 (ys.take j)).length = j := by rw [vmk_len, List.length_take]; omega
      have hms := vmk_set (k := 1) hy
      have hend := vend_succ (k := 1) hy
      rw [← HP.out] at hms hend
      obtain ⟨cur, hcur⟩ : ∃ cur, vmk 1 (ys.take j) ++ ys.drop j = cur := ⟨_, rfl⟩
      have hcl : cur.length = n := by rw [← hcur, List.length_append, hlm, List.length_drop, HN.out]; omega
      have hcj : cur[j]? = some y := by
        rw [← hcur, List.getElem?_append_right (by omega), hlm, Nat.sub_self, List.getElem?_drop, Nat.add_zero, hy]
      rw [hcur] at hms HO
      obtain ⟨hy1, hy2⟩ := HLL.out y (List.mem_of_getElem? hy)
      obtain ⟨x0, sv, m, xs⟩ := y
      simp only at hms hend hy1 hy2
      have HO1 := HO.out.1
      rw [hcl] at HO1
      have c0 : wr.cell? ⟨ga, j * 2, none⟩ = some (.bool x0) := HO1.flt.cell (vcells_at cur j _ hcj 0 _ rfl)
      have c1 : wr.cell? ⟨ga, j * 2 + 1, none⟩ = some sv := HO1.flt.cell (vcells_at cur j _ hcj 1 _ rfl)
      have f0 := HO1.flt.frozen (j * 2)
      have F2 := HO.out.flag hcl hcj (lfm p)
      simp only at F2
      have hc2 : (cur.set j (lfm p, sv, m, xs))[j]? = some (lfm p, sv, m, xs) := by rw [List.getElem?_set_self (by omega)]
      have LL := F2.2.1 _ (List.mem_of_getElem? hc2)
      simp only at LL
      obtain ⟨sa, sc, rfl, -⟩ := LL.form
      have K2 : Kept2 w (wr.setCell ⟨ga, j * 2, none⟩ (.bool (lfm p))) (Apt lo hi) := HW.out.trans (Kept2.grown (ok := Apt lo hi) (grown_cell wr ga (j * 2) (.bool (lfm p))) (fun i hi' hok => by cases hi'; exact hok ⟨g1, g2⟩))
      obtain ⟨W2, hW2⟩ : ∃ W2, wr.setCell ⟨ga, j * 2, none⟩ (.bool (lfm p)) = W2 := ⟨_, rfl⟩
      rw [hW2] at F2 LL K2
      have CM : Hid (Calls Tryz.prog 72 #[.slice sa m sc, .int .i64 ((p + 1 : Nat) : Int)] W2 fun e w' => e = .returned (.int .i64 ((p + 1 + m : Nat) : Int)) ∧ Hid (VIn lo hi (.slice (some ⟨ga, 0, none⟩) n ca) (vmk 1 (ys.take (j + 1)) ++ ys.drop (j + 1)) w') ∧ Hid (Kept2 w w' (Apt lo hi))) := by
        refine (markIs_any lo hi (.slice sa m sc) m (p + 1) xs W2 (by omega) hy2 (by omega) (by omega) LL).mono ?_
        rintro e w' ⟨rfl, hs, hk⟩
        refine ⟨rfl, ?_, ?_⟩
        · have F3 := F2.inner hc2 (mkFlat patI (p + 1) m) hk.out hs.out
          rw [List.set_set] at F3
          simp only at F3
          rw [hms] at F3
          exact F3
        · refine K2.trans ⟨hk.out.1, hk.out.2.1, hk.out.2.2.1, hk.out.2.2.2.1, fun i hi' hok => hk.out.2.2.2.2 i hi' (fun e => ?_)⟩
          have := LL.lt i e
          exact hok ⟨this.1, this.2.1⟩
      have HP2 : Hid (p + 1 + m = vend 1 (ys.take (j + 1))) := hend.symm
      have e1 : (p : Int) + 1 = ((p + 1 : Nat) : Int) := by omega
      have j0 : (0 : Int) ≤ j := by omega
      have HW2 := hide hW2
      clear hy hlm hms hend hcur hcl hcj hy1 hy2 HO1 F2 hc2 LL K2 HO HW HP hW2
      obtain ⟨p1, hp1'⟩ : ∃ p1, p + 1 = p1 := ⟨_, rfl⟩
      rw [hp1'] at e1 CM HP2
      have hb1 : p1 ≤ 1000000001 := by omega
      clear hp1'
      unfold lfm at HW2
      go_wp2_with fail
      rw [HW2.out]
      refine CM.out.mono ?_
      rintro e w5 ⟨rfl, HF5, HK5⟩
      clear CM HW2
      obtain ⟨p3, hp3⟩ : ∃ p3, p1 + m = p3 := ⟨_, rfl⟩
      rw [hp3] at HP2 ⊢
      clear hp3 c0 c1 f0
      go_wp2
      go_roundw
      case rel => exact ⟨j + 1, p3, by omega, by go_num, by first | rfl | go_num, HP2, HF5, HK5⟩
      case measure => simp [intOf]; omega
    · have hje : j = ys.length := by have := HN.out; omega
      have hO := HO.out
      rw [hje, List.drop_length, List.append_nil, List.take_length] at hO
      have hP := HP.out
      rw [hje, List.take_length] at hP
      have HO2 := hide hO
      have E : Hid ((p : Int) = ((vend 1 ys : Nat) : Int)) := by show _ = _; rw [hP]
      clear hO hje HO hP HP
      go_wp2
      go_ret
      exact ⟨congrArg (fun x => Ending.returned (.int .i64 x)) E.out, HO2, HW⟩
set_option maxHeartbeats 1000000 in
set_option maxRecDepth 100000 in
theorem heldKns_any (lo hi : Nat) (a : Value) (ys : List Vw) (w : World) (hl : ys.length ≤ 1048580) (hll : ∀ y ∈ ys, y.2.2.1 ≤ 1048576) (he : vend 1 ys ≤ 1000000000) (ha : VIn lo hi a (vmk 1 ys) w) :
    Calls Tryz.prog 52 #[a, .int .i64 1] w fun e w' => e = .returned (.int .i64 ((vend 1 ys : Nat) : Int)) ∧ Below w.heap.size w w' := by
  obtain ⟨ad, ca, rfl, a3⟩ := ha.1.form
  have A3 := hide a3
  have HA := hide ha
  have HLL := hide hll
  have HE := hide he
  clear a3 ha hll he
  obtain ⟨n, hn⟩ : ∃ n, ys.length = n := ⟨_, rfl⟩
  have HN := hide hn
  rw [vmk_len, hn] at A3 HA ⊢
  rw [hn] at hl
  clear hn
  go_enter Tryz.func52, Tryz.ntmps52
  go_wp2
  go_loopw [1, 5] (fun kv iv wr => ∃ j p : Nat, j ≤ n ∧ iv = .int .i64 j ∧ kv = .int .i64 (p : Int) ∧ Hid (p = vend 1 (ys.take j)) ∧ Hid (Below w.heap.size w wr)) (fun _ iv _ => n - (intOf iv).toNat)
  case atStart => exact ⟨0, 1, Nat.zero_le _, rfl, rfl, rfl, Below.refl _ _⟩
  case round =>
    obtain ⟨j, p, hj, rfl, rfl, HP, HW⟩ := hrel
    have hp0 : 0 < p := by have := vend_le (ys.take j) 1; have := HP.out; omega
    have hp1 : p ≤ 1000000000 := by have := vend_take ys 1 j; have := HP.out; have := HE.out; omega
    by_cases hlt : (j : Int) < n
    · obtain ⟨ga, e, g1, g2⟩ := A3.out (by omega)
      subst e
      have hjl : j < ys.length := by have := HN.out; omega
      obtain ⟨y, hy⟩ : ∃ y, ys[j]? = some y := ⟨_, List.getElem?_eq_getElem hjl⟩
      have hmj := vmk_at (k := 1) hy
      have hend := vend_succ (k := 1) hy
      rw [← HP.out] at hmj hend
      have hy1 := HLL.out y (List.mem_of_getElem? hy)
      obtain ⟨x0, sv, m, xs⟩ := y
      simp only at hmj hend hy1
      have HO1 := HA.out.1
      rw [vmk_len, HN.out] at HO1
      have GA := HO1.flt.below HW.out
      have c0 : wr.cell? ⟨ga, j * 2, none⟩ = some (.bool (lfm p)) := GA.cell (vcells_at _ j _ hmj 0 _ rfl)
      have c1 : wr.cell? ⟨ga, j * 2 + 1, none⟩ = some sv := GA.cell (vcells_at _ j _ hmj 1 _ rfl)
      have LL := HA.out.2.1 _ (List.mem_of_getElem? hmj)
      simp only at LL
      obtain ⟨sa, sc, rfl, -⟩ := LL.form
      have CM := hide (heldIs_any lo hi (.slice sa m sc) m (p + 1) wr (by omega) (by omega) (by omega) (LL.blw HW.out))
      have HP2 : Hid (p + 1 + m = vend 1 (ys.take (j + 1))) := hend.symm
      have e1 : (p : Int) + 1 = ((p + 1 : Nat) : Int) := by omega
      have j0 : (0 : Int) ≤ j := by omega
      clear hy hmj hend HO1 GA LL HP
      obtain ⟨p1, hp1'⟩ : ∃ p1, p + 1 = p1 := ⟨_, rfl⟩
      rw [hp1'] at e1 CM HP2
      have hb1 : p1 ≤ 1000000001 := by omega
      clear hp1'
      unfold lfm at c0
      have n0 : (((p : Int) % 3 == 0) != ((p : Int) % 3 == 0)) = false := by simp
      go_wp2_with fail
      refine CM.out.mono ?_
      rintro e w5 ⟨rfl, b5⟩
      have HW5 := hide (HW.out.trans (b5.mono HW.out.size))
      clear CM b5 HW
      obtain ⟨p3, hp3⟩ : ∃ p3, p1 + m = p3 := ⟨_, rfl⟩
      have m0 : ¬ ((p3 : Int) < 0) := by omega
      rw [hp3] at HP2 ⊢
      clear hp3 c0 c1
      go_wp2
      go_roundw
      case rel => exact ⟨j + 1, p3, by omega, by go_num, by first | rfl | go_num, HP2, HW5⟩
      case measure => simp [intOf]; omega
    · have hje : j = ys.length := by have := HN.out; omega
      have hP := HP.out
      rw [hje, List.take_length] at hP
      have E : Hid ((p : Int) = ((vend 1 ys : Nat) : Int)) := by show _ = _; rw [hP]
      clear hje hP HP
      go_wp2
      go_ret
      exact ⟨congrArg (fun x => Ending.returned (.int .i64 x)) E.out, HW.out⟩
end Go.Proofs.YtcnaahajaaifjacGreat
