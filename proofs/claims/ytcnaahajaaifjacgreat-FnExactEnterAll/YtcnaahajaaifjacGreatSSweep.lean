/-
  spec.SweepArena.
-/
import Derived.Test.YtcnaahajaaifjacGreatPk22
import Derived.Test.YtcnaahajaaifjacGreatKnCp
import Derived.Test.YtcnaahajaaifjacGreatPk23
import Derived.Deep.RegionHeld3
import Derived.Laws.AppendOwnNone
namespace Go.Proofs.YtcnaahajaaifjacGreat
open Go.RowKit
open Words

/-- 'append(v, xs...)' of a row of numbers, wherever it lies; or of none. -/
theorem wpList_append_sl (w : World) {ops : Array Oper} {rest : List Oper} {o : Oper} {a : Act} {Q : Exit → Act → World → Prop} (hgd : o.guard = none) (s x : Operand)
    (ho : o.op = .call { callee := .builtin .append, args := #[s, x], argTypes := #[81, 81] })
    (base : Nat) (i : TypeInfo) (hi : Tryz.prog.info? 3 = some i) (hz : i.zero = some (.int .i64 0)) (hsize : i.size = 1) (hby : i.bytes = 8)
    (v : Value) (n : Nat) (xs : List Value) (hs : a.eval s = v) (hown : w.ownsRow base 3 1 v n xs)
    (ls : List Int) (m : Nat) (hm : ls.length = m) (u : Value) (hx : a.eval x = u) (hsl : ISl w u ls) (h63 : n + m ≤ maxLen) (hbytes : (n + m) * 8 ≤ 140737488355328) (hbase : base ≤ w.heap.size)
    (h : ∀ v' w', w'.ownsRow base 3 1 v' (n + m) (xs ++ icells ls) → w.grownBy w' v.ownBlock → wpList Tryz.prog ops Q rest (a.put o.dst v') w') : wpList Tryz.prog ops Q (o :: rest) a w := by
  subst hm
  obtain ⟨ad, c, rfl, h0, hr⟩ := hsl
  cases ls with
  | nil =>
    cases ad with
    | none =>
      rw [h0 rfl] at hx
      exact wpList_append_own_none hgd s x 81 ho base 3 i 1 Tryz.underlying81 hi v n xs hs hown hx (h v w (by simpa [icells] using hown) (World.grownBy.refl _ _))
    | some q => exact wpList_append_own w hgd s x 81 ho base 3 i (.int .i64 0) 1 8 Tryz.underlying81 hi hz hsize hby rfl (by decide) v n xs hs hown q 0 c [] hx rfl (fun _ _ e => by simp at e) (fun _ e => by cases e) h63 hbytes hbase (fun v' w' h1 h2 _ => h v' w' h1 h2)
  | cons y l =>
    obtain ⟨b, off, e, -, hc⟩ := hr.2.2 (by simp)
    subst e
    exact wpList_append_own w hgd s x 81 ho base 3 i (.int .i64 0) 1 8 Tryz.underlying81 hi hz hsize hby rfl (by decide) v n xs hs hown ⟨b, off, none⟩ _ c (icells (y :: l)) hx (by simp [icells]) hr.cells (icells_one _) h63 hbytes hbase (fun v' w' h1 h2 _ => h v' w' h1 h2)

theorem rmap_set {α : Type} {n k : Nat} {f f' : Nat → α} {b : α} (hf : ∀ i, i ≠ k → f' i = f i) (hk : f' k = b) : ((List.range n).map f).set k b = (List.range n).map f' := by
  apply List.ext_getElem?
  intro i
  rw [List.getElem?_set]
  by_cases e : k = i
  · subst e
    by_cases h : k < n
    · simp [h, hk]
    · simp [h]
  · rw [if_neg e, List.getElem?_map, List.getElem?_map]
    by_cases h : i < n
    · simp [h, hf i (Ne.symm e)]
    · simp [h]
theorem rmap_at {α : Type} {n k : Nat} (f : Nat → α) (h : k < n) : ((List.range n).map f)[k]? = some (f k) := by simp [h]
/-- One more: its children lie apart from those of the others. -/
theorem KOwn.snoc2 {W y : World} {B C : Nat} {v u' : Value} {rs : List Kw} {r : Kw} (h : KOwn W B v rs) (hC : ∀ x ∈ rs, ∀ g, x.2.1.ownBlock = some g → g < C) (hB : B ≤ C) (hr : Sli 3 C W.heap.size r.2.1 r.2.2.length (icells r.2.2) W) (hm : r.2.2.length ≤ maxLen)
    (hg : W.grownBy y v.ownBlock) (ho : y.ownsRow B 84 2 u' (rs ++ [r]).length (kncells (rs ++ [r]))) : KOwn y B u' (rs ++ [r]) := by
  have hk := own_kind h.1
  have far : ∀ (t : Value) (g : Nat), v.ownBlock = some g → ∀ {lo hi n : Nat} {xs : List Value}, Sli 3 lo hi t n xs W → t.ownBlock ≠ some g := by
    intro t g hg lo hi n xs hs e
    obtain ⟨-, -, cs, q⟩ := hk g hg
    obtain ⟨-, -, cs', q'⟩ := hs.lt g e
    exact int_ne_kn q' q
  refine ⟨ho, ?_, ?_⟩
  · intro x hx
    rcases List.mem_append.1 hx with hx | hx
    · exact ⟨((h.2.1 x hx).1.grown hg (fun g e e2 => far _ g e2 (h.2.1 x hx).1 e)).up hg.size, (h.2.1 x hx).2⟩
    · simp only [List.mem_singleton] at hx
      subst hx
      exact ⟨((hr.grown hg (fun g e e2 => far _ g e2 hr e)).dn hB).up hg.size, hm⟩
  · refine List.pairwise_append.2 ⟨h.2.2, List.pairwise_singleton _ _, ?_⟩
    intro a ha b hb2 g e1 e2
    simp only [List.mem_singleton] at hb2
    subst hb2
    have q1 := hC a ha g e1
    have q2 := (hr.lt g e2).1
    omega
/-- Places so far. -/
def plK (u : Nat → Bool) (k i : Nat) : Int := if i < k ∧ u i = true then (swN u i : Int) else 0
theorem plK_zero (u : Nat → Bool) (i : Nat) : plK u 0 i = 0 := by rw [plK, if_neg (by omega)]
theorem plK_no {u : Nat → Bool} {k : Nat} (h : u k = false) (i : Nat) : plK u (k + 1) i = plK u k i := by
  unfold plK
  by_cases e : i = k
  · subst e; rw [h]; simp
  · have : (i < k + 1) ↔ (i < k) := by omega
    simp only [this]
theorem plK_yes {u : Nat → Bool} {k : Nat} (i : Nat) (hi : i ≠ k) : plK u (k + 1) i = plK u k i := by
  unfold plK
  have : (i < k + 1) ↔ (i < k) := by omega
  simp only [this]
theorem plK_at {u : Nat → Bool} {k i : Nat} (hi : i < k) (h : u i = true) : plK u k i = swN u i := by rw [plK, if_pos ⟨hi, h⟩]
/-- All that lies ahead of the arena that is made. -/
def swD (z ub m g len pb ob : Nat) (av sv ov : Value) (qs : List Int) (u : Nat → Bool) (k : Nat) : List Hold :=
  (ob, ob + 1, Cel ob #[ov] 34) :: (pb, pb + 1, Flt 3 pb (icells ((List.range len).map (plK u k)))) :: (g, g + 1, Flt 4 g (flcells ((List.range len).map u))) :: [(z + 2, ub, Sli 3 (z + 2) ub sv m (icells qs)), (z + 1, z + 1 + 1, Cel (z + 1) #[.slice none 0 0] 34), (z, z + 1, Cel z #[av] 34)]
/-- A knot that is made: its cell, its children. -/
def XSt (wr W : World) (xb vb vc : Nat) (lf : Bool) (xs : List Int) : Prop := W.heap[xb]? = some (.cells #[.bool lf, .slice (some ⟨vb, 0, none⟩) 4 vc] 84 (0, 0)) ∧ Flt 3 vb (icells xs) W ∧ Below wr.heap.size wr W ∧ wr.heap.size ≤ xb ∧ wr.heap.size ≤ vb
theorem XSt.ne {wr W : World} {xb vb vc : Nat} {lf : Bool} {xs : List Int} (h : XSt wr W xb vb vc lf xs) : xb ≠ vb := by
  intro e
  obtain ⟨h1, ⟨cs, h2, -⟩, -⟩ := h
  rw [e, h2] at h1
  injection h1 with h1
  injection h1 with _ h1
  simp at h1
theorem XSt.vlt {wr W : World} {xb vb vc : Nat} {lf : Bool} {xs : List Int} (h : XSt wr W xb vb vc lf xs) : vb < W.heap.size := by
  obtain ⟨-, ⟨cs, h2, -⟩, -⟩ := h
  exact (Array.getElem?_eq_some_iff.1 h2).1
theorem XSt.set {wr W : World} {xb vb vc q : Nat} {lf : Bool} {xs : List Int} (h : XSt wr W xb vb vc lf xs) (n : Int) : XSt wr (W.setCell ⟨vb, q, none⟩ (.int .i64 n)) xb vb vc lf (xs.set q n) := by
  refine ⟨row_set_ne h.1 h.ne _ _, ?_, h.2.2.1.setCell (p := ⟨vb, q, none⟩) h.2.2.2.2 _, h.2.2.2⟩
  have := h.2.1.set q (.int .i64 n)
  have e : (icells xs).set q (.int .i64 n) = icells (xs.set q n) := by simp [icells, List.map_set]
  rw [e] at this
  exact this
theorem row_none {X : World} {q B : Nat} (h : X.heap[q]? = some (.cells #[] 3 (0, 0))) (hB : B ≤ q) : X.ownsRow B 3 1 (.slice (some ⟨q, 0, none⟩) 0 0) 0 [] := ⟨rfl, .inr ⟨q, 0, #[], rfl, hB, h, Nat.le_refl _, by unfold maxLen; omega, rfl, rfl⟩⟩
/-- A knot's cell, laid behind its children. -/
theorem XSt.late {wr W : World} {vb vc : Nat} {lf : Bool} {xs : List Int} (hb : Below wr.heap.size wr W) (hf : Flt 3 vb (icells xs) W) (hv : wr.heap.size ≤ vb) : XSt wr (W.alloc (.cells #[.bool lf, .slice (some ⟨vb, 0, none⟩) 4 vc] 84)) W.heap.size vb vc lf xs :=
  ⟨heap_alloc_new W _, hf.below ((Below.refl _ _).alloc (Nat.le_refl _) _), hb.alloc hb.size _, hb.size, hv⟩
/-- A knot's cell, laid ahead of its children. -/
theorem XSt.early {wr W : World} {xb vb vc : Nat} {lf : Bool} {xs : List Int} {a c : Value} (hb : Below wr.heap.size wr W) (hx : W.heap[xb]? = some (.cells #[a, c] 84 (0, 0))) (hxb : wr.heap.size ≤ xb) (hf : Flt 3 vb (icells xs) W) (hv : wr.heap.size ≤ vb) : XSt wr ((W.setCell ⟨xb, 0, none⟩ (.bool lf)).setCell ⟨xb, 1, none⟩ (.slice (some ⟨vb, 0, none⟩) 4 vc)) xb vb vc lf xs := by
  have hne : vb ≠ xb := by
    intro e
    obtain ⟨cs, h2, -⟩ := hf
    rw [e, hx] at h2
    injection h2 with h2
    injection h2 with _ h2
    simp at h2
  refine ⟨row_set (row_set hx 0 _) 1 _, ?_, (hb.setCell (p := ⟨xb, 0, none⟩) hxb _).setCell (p := ⟨xb, 1, none⟩) hxb _, hxb, hv⟩
  obtain ⟨cs, h2, h3⟩ := hf
  exact ⟨cs, row_set_ne (row_set_ne h2 hne _ _) hne _ _, h3⟩
theorem flt_of {W : World} {B : Nat} {v : Value} {xs : List Int} (h : W.ownsRow B 3 1 v 4 (icells xs)) : ∃ vb vc, v = .slice (some ⟨vb, 0, none⟩) 4 vc ∧ Flt 3 vb (icells xs) W ∧ B ≤ vb := by
  obtain ⟨ad, c, e, q⟩ := (Sli.of h).form
  obtain ⟨g, rfl, h1, -⟩ := q (by omega)
  subst e
  exact ⟨g, c, rfl, (Sli.of h).flt, h1⟩
/-- A knot's children, the first q of them at their places. -/
def pKids (u : Nat → Bool) (lf : Bool) (ls : List Int) (q : Nat) : List Int := if lf = true then ls else (ls.map (swP u)).take q ++ ls.drop q
theorem pKids_zero (u : Nat → Bool) (lf : Bool) (ls : List Int) : pKids u lf ls 0 = ls := by unfold pKids; split <;> simp
theorem pKids_at {u : Nat → Bool} {ls : List Int} {q : Nat} {n : Int} (h : ls[q]? = some n) : (pKids u false ls q)[q]? = some n := by
  have hq := (List.getElem?_eq_some_iff.1 h).1
  rw [pKids, if_neg (by decide), List.getElem?_append_right (by rw [List.length_take]; omega), List.length_take, List.length_map, Nat.min_eq_left (by omega), Nat.sub_self, List.getElem?_drop]
  simpa using h
theorem pKids_set {u : Nat → Bool} {ls : List Int} {q : Nat} {n : Int} (h : ls[q]? = some n) : (pKids u false ls q).set q (swP u n) = pKids u false ls (q + 1) := by
  obtain ⟨hq, e⟩ := List.getElem?_eq_some_iff.1 h
  have hq2 : q < (ls.map (swP u)).length := by rw [List.length_map]; exact hq
  have e2 : (ls.map (swP u))[q] = swP u n := by rw [List.getElem_map, e]
  rw [pKids, pKids, if_neg (by decide), if_neg (by decide), List.set_append_right _ _ (by rw [List.length_take]; omega), List.length_take, List.length_map, Nat.min_eq_left (by omega), Nat.sub_self, List.drop_eq_getElem_cons hq, List.set_cons_zero, List.take_succ_eq_append_getElem hq2, e2, List.append_assoc]
  rfl
theorem pKids_same {u : Nat → Bool} {ls : List Int} {q : Nat} {n : Int} (h : ls[q]? = some n) (hn : swP u n = n) : pKids u false ls q = pKids u false ls (q + 1) := by
  obtain ⟨h1, h2⟩ := List.getElem?_eq_some_iff.1 (pKids_at (u := u) h)
  rw [← pKids_set h, hn]
  have := List.set_getElem_self h1
  rw [h2] at this
  exact this.symm
theorem pKids_all {u : Nat → Bool} {lf : Bool} {ls : List Int} {q : Nat} (h : ls.length = 4) (hq : lf = true ∨ q = 4) : (⟨lf, pKids u lf ls q⟩ : Kn) = swX u ⟨lf, ls⟩ := by
  unfold pKids swX
  cases lf with
  | true => rfl
  | false =>
    rcases hq with hq | rfl
    · cases hq
    · rw [if_neg (show ¬ (false = true) by decide), if_neg (show ¬ (false = true) by decide), List.take_of_length_le (by rw [List.length_map]; omega), List.drop_eq_nil_of_le (by omega), List.append_nil]
/-- The box, the answer's cell, the roots' copy. -/
def swA (z ub m : Nat) (av sv : Value) (qs : List Int) : List Hold := [(z + 2, ub, Sli 3 (z + 2) ub sv m (icells qs)), (z + 1, z + 1 + 1, Cel (z + 1) #[.slice none 0 0] 34), (z, z + 1, Cel z #[av] 34)]

set_option maxHeartbeats 4000000 in
set_option maxRecDepth 100000 in
theorem ssweep : SweepC 58 := by
  intro ad len cap rs ra m rc qs w hl hm hll h hra hqs
  have T0 := hide (Tk.two w #[.slice ad len cap] #[.slice none 0 0] 34 34)
  have Z0 : Hid (((w.alloc (.cells #[.slice ad len cap] 34)).alloc (.cells #[.slice none 0 0] 34)).heap.size = w.heap.size + 2) := by show _ = _; simp
  have H := hide h
  have HQ := hide hqs
  have HQL := hide hqs.1
  have HRA := hide hra
  have HLL := hide hll
  have HLn := hide (show (rs.map ktell).length = len by rw [List.length_map]; exact h.1)
  clear h hll hqs hra
  obtain ⟨L, hL⟩ : ∃ L, rs.map ktell = L := ⟨_, rfl⟩
  have HL := hide hL
  rw [hL] at HLn ⊢
  clear hL
  have BE : Hid (Below ((w.alloc (.cells #[.slice ad len cap] 34)).alloc (.cells #[.slice none 0 0] 34)).heap.size ((w.alloc (.cells #[.slice ad len cap] 34)).alloc (.cells #[.slice none 0 0] 34)) (((w.alloc (.cells #[.slice ad len cap] 34)).alloc (.cells #[.slice none 0 0] 34)).alloc (.cells #[] 3))) := (Below.refl _ _).alloc (Nat.le_refl _) _
  have OE : Hid ((((w.alloc (.cells #[.slice ad len cap] 34)).alloc (.cells #[.slice none 0 0] 34)).alloc (.cells #[] 3)).ownsRow (w.heap.size + 2) 3 1 (.slice (some ⟨w.heap.size + 1 + 1, 0, none⟩) 0 0) 0 []) := row_empty _ Z0.out
  have SE : Hid (ISl (((w.alloc (.cells #[.slice ad len cap] 34)).alloc (.cells #[.slice none 0 0] 34)).alloc (.cells #[] 3)) (.slice ra m rc) qs) := by
    have := HQL.out
    rw [← this]
    exact ⟨ra, rc, rfl, HRA.out, by rw [this]; exact (HQ.out.below T0.out.1).below BE.out⟩
  obtain ⟨i0, hi0, hz0, hz1, hz2⟩ := info_parts infoInt
  have I0 := hide hi0
  have Y0 := hide hz0
  have Y1 := hide hz1
  have Y2 := hide hz2
  have HSB : Hid (w.heap.size + 2 ≤ (((w.alloc (.cells #[.slice ad len cap] 34)).alloc (.cells #[.slice none 0 0] 34)).alloc (.cells #[] 3)).heap.size) := by show _ ≤ _; simp
  clear hi0 hz0 hz1 hz2
  go_enter Tryz.func58, Tryz.ntmps58
  go_wp2_with (at_builtin; refine wpList_append_sl _ rfl _ _ rfl (w.heap.size + 2) i0 I0.out Y0.out Y1.out Y2.out _ 0 [] rfl OE.out qs m HQL.out _ rfl SE.out ?c1 ?c2 HSB.out ?_)
  case c1 => unfold maxLen; omega
  case c2 => omega
  intro sv w1 o1 g1
  have hb1 := BE.out.grown g1 BE.out.size (fun q hq => by cases hq; rw [Z0.out]; exact Nat.le_refl _)
  have T1 : Hid (Tk w w1 (swA w.heap.size w1.heap.size m (.slice ad len cap) sv qs)) := by
    have := T0.out.add hb1 (P := Sli 3 (w.heap.size + 2) w1.heap.size sv m (icells qs)) (by rw [Z0.out]; exact Sli.loc _ _ _ _ _ _) (Sli.of o1)
    rw [Z0.out] at this
    exact this
  obtain ⟨sa, sc, rfl, -⟩ := (Sli.of o1).form
  clear o1 g1 hb1 SE OE BE T0 Z0 HSB
  obtain ⟨z, hz⟩ : ∃ z, w.heap.size = z := ⟨_, rfl⟩
  have HZ := hide hz
  rw [hz] at T1 ⊢
  clear hz
  have KR : Hid (∀ W hs, Tk w W hs → KnRd W ad len rs) := fun W hs hW => H.out.below hW.1
  have QR : Hid (∀ W hs, Tk w W hs → IRow W ra m qs) := fun W hs hW => HQ.out.below hW.1
  have bx : w1.cell? ⟨z, 0, none⟩ = some (.slice ad len cap) := T1.out.at 2 0 rfl rfl
  go_wp2_with fail
  refine (sarOk ad len cap rs w1 hl (KR.out _ _ T1.out)).mono ?_
  rw [HL.out]
  rintro e w2 ⟨rfl, b2⟩
  have T2 := hide (T1.out.below b2)
  clear b2 T1 bx
  obtain ⟨ub, hub⟩ : ∃ ub, w1.heap.size = ub := ⟨_, rfl⟩
  rw [hub] at T2
  clear hub
  obtain ⟨b0, hb0⟩ : ∃ b0, arB L = b0 := ⟨_, rfl⟩
  rw [hb0]
  have E0 : Hid (b0 = (arB L && (qs.take 0).all (rootB L))) := by show _ = _; rw [← hb0]; simp
  clear hb0
  go_wp2
  go_loopw [7, 8] (fun ov iv W => ∃ (k : Nat) (b : Bool), k ≤ m ∧ iv = .int .i64 k ∧ ov = .bool b ∧ Hid (b = (arB L && (qs.take k).all (rootB L))) ∧ Hid (Tk w W (swA z ub m (.slice ad len cap) (.slice sa m sc) qs))) (fun _ iv _ => m - (intOf iv).toNat)
  case atStart => exact ⟨0, b0, Nat.zero_le _, rfl, rfl, E0, T2⟩
  case round =>
    obtain ⟨k, b, hk, rfl, rfl, HB, HT⟩ := hrel
    clear T2 E0
    have bx : wr.cell? ⟨z, 0, none⟩ = some (.slice ad len cap) := HT.out.at 2 0 rfl rfl
    by_cases hgo : (k : Int) < m ∧ b = true
    · obtain ⟨hlt, rfl⟩ := hgo
      obtain ⟨r, hr⟩ : ∃ r, qs[k]? = some r := ⟨_, List.getElem?_eq_getElem (by have := HQL.out; omega)⟩
      obtain ⟨rb, ro, e, hrb, hrc⟩ := (QR.out _ _ HT.out).at hr
      subst e
      have k0 : (0 : Int) ≤ k := by omega
      have TD := hide HT.out.drew
      have C := hide (sroot ad len cap rs r wr.drew hl (KR.out _ _ TD.out))
      rw [HL.out] at C
      have HB2 : Hid (rootB L r = (arB L && (qs.take (k + 1)).all (rootB L))) := by
        show _ = _
        rw [List.take_add_one, hr, List.all_append]
        have := HB.out
        simp only [Option.toList_some, List.all_cons, List.all_nil, Bool.and_true]
        rw [← Bool.and_assoc, ← this, Bool.true_and]
      have KP : Hid (∀ W, Below wr.drew.heap.size wr.drew W → W.cell? ⟨z, 0, none⟩ = some (.slice ad len cap) ∧ W.cell? ⟨rb, ro + k, none⟩ = some (.int .i64 r)) := fun W hW =>
        ⟨(TD.out.below hW).at 2 0 rfl rfl, (hW.cell (show rb < wr.drew.heap.size from hrb)).trans hrc⟩
      clear hr HB
      go_wp2
      go_region_held3 (fun w' => w'.cell? ⟨z, 0, none⟩ = some (.slice ad len cap) ∧ w'.cell? ⟨rb, ro + k, none⟩ = some (.int .i64 r)) (first | go_keep | exact KP.out _ BB.out) ((go_at_call 56; (with_reducible refine Calls.mono C.out ?_); rintro en w3 ⟨rfl, bb⟩; have BB := hide bb; clear bb))
      all_goals
        have T3 := hide (TD.out.below BB.out)
        clear TD KP C HT BB
        go_wp2
        go_roundw
        case rel => exact ⟨k + 1, rootB L r, by omega, by go_num, rfl, HB2, T3⟩
        case measure => simp [intOf]; omega
    · have HOK : Hid (b = swB L qs) := by
        show _ = _
        rw [swB, HB.out]
        by_cases hkm : k < m
        · have hbf : b = false := by
            cases b with
            | false => rfl
            | true => exact absurd ⟨by omega, rfl⟩ hgo
          have h1 := HB.out
          rw [hbf] at h1
          rw [← h1]
          cases hA : arB L with
          | false => rfl
          | true =>
            rw [hA, Bool.true_and] at h1
            rw [Bool.true_and]
            symm
            rw [List.all_eq_false] at *
            have h2 := h1.symm
            rw [List.all_eq_false] at h2
            obtain ⟨x, hx, hn⟩ := h2
            exact ⟨x, List.mem_of_mem_take hx, hn⟩
        · rw [List.take_of_length_le (by have := HQL.out; omega)]
      have hcond : Hid (¬ ((k : Int) < m ∧ b = true)) := hgo
      clear HB hgo
      cases b with
      | false =>
        have E : Hid (sweepL L qs = L ∧ sweepR L qs = qs) := ⟨by rw [sweepL, ← HOK.out]; rfl, by rw [sweepR, ← HOK.out]; rfl⟩
        by_cases hkm : (k : Int) < m
        all_goals
          go_wp2_with fail
          refine (skcopy ad len cap rs wr hl HLL.out (KR.out _ _ HT.out)).mono ?_
          rw [HL.out]
          rintro e w3 ⟨v, rfl, uv, ss, rfl, ko, hss, b3⟩
          obtain ⟨ua, uc, rfl⟩ := ko.form
          have T3 := hide (HT.out.below b3)
          have K3 : Hid (Kns wr.heap.size w3.heap.size (.slice ua ss.length uc) L w3) := ⟨ss, hss, ko.kns⟩
          have hs3 := b3.size
          have hiu : ub ≤ wr.heap.size := HT.out.hi 0 rfl
          have r0 : w3.cell? ⟨z + 1, 0, none⟩ = some (.slice none 0 0) := T3.out.at 1 0 rfl rfl
          have f0 : w3.frozen? ⟨z + 1, 0, none⟩ = false := T3.out.fr 1 0 rfl
          obtain ⟨un, hun⟩ : ∃ un, ss.length = un := ⟨_, rfl⟩
          rw [hun] at K3 ⊢
          clear ko hss b3 hun bx
          have FR : Hid ((w3.setCell ⟨z + 1, 0, none⟩ (.slice ua un uc)).heap[z + 1]? = some (.cells #[.slice ua un uc] 34 (0, 0))) := row_set (T3.out.get 1 rfl) 0 _
          have FIN : Hid (SweepOut w (sweepL L qs) (sweepR L qs) (.returned (.tuple #[.agg #[.slice ua un uc], .slice sa m sc])) (w3.setCell ⟨z + 1, 0, none⟩ (.slice ua un uc))) := by
            rw [E.out.1, E.out.2]
            have hz3 : (w3.setCell ⟨z + 1, 0, none⟩ (.slice ua un uc)).heap.size = w3.heap.size := by simp [World.setCell]
            have far : ∀ q, z + 2 ≤ q → (w3.setCell ⟨z + 1, 0, none⟩ (.slice ua un uc)).heap[q]? = w3.heap[q]? := fun q hq => Below.heap_setCell _ _ _ _ (show q ≠ z + 1 by omega)
            have hiz : z + 1 + 1 ≤ wr.heap.size := HT.out.hi 1 rfl
            refine ⟨_, _, wr.heap.size, w3.heap.size, z + 2, ub, rfl, ?_, ?_, by rw [HZ.out]; omega, by rw [hz3]; exact Nat.le_refl _, by rw [HZ.out]; omega, by rw [hz3]; omega, .inr hiu, ?_⟩
            · exact Kns.loc _ _ _ _ _ _ (fun q q1 q2 => far q (by omega)) K3.out
            · rw [HQL.out]
              exact Sli.loc _ _ _ _ _ _ _ _ (fun q q1 q2 => far q q1) (T3.out.get 0 rfl)
            · exact T3.out.1.setCell (p := ⟨z + 1, 0, none⟩) (by rw [HZ.out]; show z ≤ z + 1; omega) _
          go_wp2
          exact bodyPost_ret (results_ar2 (p := 4) (q := 5) rfl _ _ (z + 1) _ rfl FR.out) rfl FIN.out
      | true =>
        have hkm : ¬ ((k : Int) < m) := fun q => hcond.out ⟨q, rfl⟩
        have TO := hide (swB_ok HOK.out.symm)
        have E : Hid (sweepL L qs = swL L qs ∧ sweepR L qs = qs.map (swP (swU L qs))) := ⟨by rw [sweepL, if_pos HOK.out.symm], by rw [sweepR, if_pos HOK.out.symm]⟩
        obtain ⟨i1, hi1, hy0, hy1, hy2⟩ := info_parts infoBl
        have gz : wr.heap.size = wr.heap.size := rfl
        go_wp2_with (at_make; refine wpList_make_full _ rfl _ _ 104 rfl wr.heap.size 4 i1 (.bool false) 1 Tryz.underlying104 hi1 hy0 hy1 .i64 .i64 _ _ len rfl rfl rfl rfl (by rw [hy2]; omega) (by unfold maxLen; omega) (Nat.le_refl _) ?_)
        intro w3 hown hgrow
        rw [toList_madeCells_one] at hown
        clear hi1 hy0 hy1 hy2 gz
        have b3 : Below wr.heap.size wr w3 := (Below.refl _ _).grown hgrow (Nat.le_refl _) (fun k hk => by cases hk)
        have hwz : w.heap.size ≤ wr.heap.size := HT.out.1.size
        have hub : ub ≤ wr.heap.size := HT.out.hi 0 rfl
        have hzz : z + 1 + 1 ≤ wr.heap.size := HT.out.hi 1 rfl
        have T3 : Hid (Tk w w3 ((wr.heap.size, wr.heap.size + 1, Flt 4 wr.heap.size (flcells ((List.range len).map (swU L (qs.take 0))))) :: swA z ub m (.slice ad len cap) (.slice sa m sc) qs)) := by
          refine (HT.out.below b3).put (hown.lt _ rfl).2 (Flt.loc _ _ _) ?_
          have e : List.replicate len (Value.bool false) = flcells ((List.range len).map (swU L (qs.take 0))) := by
            apply List.ext_getElem?
            intro i
            by_cases h : i < len
            · simp [flcells, h, swU]
            · simp [flcells, h]
          have := (Sli.of hown).flt
          rw [e] at this
          exact this
        obtain ⟨g, hg⟩ : ∃ g, wr.heap.size = g := ⟨_, rfl⟩
        rw [hg] at T3 hub hzz hwz ⊢
        clear hown hgrow b3 HT hg bx
        go_wp2
        go_loopw [10] (fun iv W => ∃ j : Nat, j ≤ m ∧ iv = .int .i64 j ∧ Hid (Tk w W ((g, g + 1, Flt 4 g (flcells ((List.range len).map (swU L (qs.take j))))) :: swA z ub m (.slice ad len cap) (.slice sa m sc) qs))) (fun iv _ => m - (intOf iv).toNat)
        case atStart => exact ⟨0, Nat.zero_le _, rfl, T3⟩
        case round =>
          obtain ⟨j, hj, rfl, TJ⟩ := hrel
          clear T3
          have bx : wr.cell? ⟨z, 0, none⟩ = some (.slice ad len cap) := TJ.out.at 3 0 rfl rfl
          by_cases hlt : (j : Int) < m
          · obtain ⟨r, hr⟩ : ∃ r, qs[j]? = some r := ⟨_, List.getElem?_eq_getElem (by have := HQL.out; omega)⟩
            obtain ⟨rb, ro, e, hrb, hrc⟩ := (QR.out _ _ TJ.out).at hr
            have e' := e
            subst e'
            have j0 : (0 : Int) ≤ j := by omega
            have TD := hide TJ.out.drew
            have C := hide (shas ad len cap rs r wr.drew hl (KR.out _ _ TD.out) (by rw [HL.out]; exact TO.out.1) (by rw [HL.out]; exact TO.out.2 r (List.mem_of_getElem? hr)))
            rw [HL.out] at C
            have HRR := hide hr
            have KP : Hid (∀ W, Below wr.drew.heap.size wr.drew W → W.cell? ⟨z, 0, none⟩ = some (.slice ad len cap) ∧ W.cell? ⟨rb, ro + j, none⟩ = some (.int .i64 r)) := fun W hW =>
              ⟨(TD.out.below hW).at 3 0 rfl rfl, (hW.cell (show rb < wr.drew.heap.size from hrb)).trans hrc⟩
            clear hr TJ
            go_wp2
            go_region_held3 (fun w' => w'.cell? ⟨z, 0, none⟩ = some (.slice ad len cap) ∧ w'.cell? ⟨rb, ro + j, none⟩ = some (.int .i64 r)) (first | go_keep | exact KP.out _ BB.out) ((go_at_call 75; (with_reducible refine Calls.mono C.out ?_); rintro en w4 ⟨hg, rfl, h1, h2, h3, bb⟩; have BB := hide bb; have HF := hide h3; have HG1 := hide h1; have HG2 := hide h2; clear bb h1 h2 h3))
            all_goals
              have hgg : g + 1 ≤ wr.drew.heap.size := TD.out.hi 0 rfl
              have hgh : g + 1 ≤ hg := Nat.le_trans hgg HG1.out
              have T4 : Hid (Tk w w4 ((hg, hg + 1, Flt 4 hg (flcells ((List.range len).map (hasB L r)))) :: (g, g + 1, Flt 4 g (flcells ((List.range len).map (fun x => swU L (qs.take j) x || (decide (x < 0) && hasB L r x))))) :: swA z ub m (.slice ad len cap) (.slice sa m sc) qs)) := by
                have e : (fun x => swU L (qs.take j) x || (decide (x < 0) && hasB L r x)) = swU L (qs.take j) := by funext x; simp
                rw [e]
                exact (TD.out.below BB.out).put HG2.out (Flt.loc _ _ _) HF.out
              clear TD KP C BB HF HG1 HG2 hrb hrc hgg bx
              go_wp2
              go_loopw [12] (fun iv W => ∃ i : Nat, i ≤ len ∧ iv = .int .i64 i ∧ Hid (Tk w W ((hg, hg + 1, Flt 4 hg (flcells ((List.range len).map (hasB L r)))) :: (g, g + 1, Flt 4 g (flcells ((List.range len).map (fun x => swU L (qs.take j) x || (decide (x < i) && hasB L r x))))) :: swA z ub m (.slice ad len cap) (.slice sa m sc) qs))) (fun iv _ => len - (intOf iv).toNat)
              case atStart => exact ⟨0, Nat.zero_le _, rfl, T4⟩
              case round =>
                obtain ⟨i, hi, rfl, TI⟩ := hrel
                clear T4
                by_cases hlt2 : (i : Int) < len
                · have hil : i < len := by omega
                  have i0' : (0 : Int) ≤ i := by omega
                  have hF1 : Flt 4 hg (flcells ((List.range len).map (hasB L r))) wr := TI.out.get 0 rfl
                  have hF2 : Flt 4 g (flcells ((List.range len).map (fun x => swU L (qs.take j) x || (decide (x < i) && hasB L r x)))) wr := TI.out.get 1 rfl
                  have c1 := hF1.cell (flcells_get (rmap_at (hasB L r) hil))
                  have c2 := hF2.cell (flcells_get (rmap_at (fun x => swU L (qs.take j) x || (decide (x < i) && hasB L r x)) hil))
                  have f2 := hF2.frozen i
                  simp only [Nat.lt_irrefl, decide_false, Bool.false_and, Bool.or_false] at c2
                  obtain ⟨uu, huu⟩ : ∃ uu, swU L (qs.take j) i = uu := ⟨_, rfl⟩
                  obtain ⟨hh, hhh⟩ : ∃ hh, hasB L r i = hh := ⟨_, rfl⟩
                  have NX : Hid (Tk w (wr.setCell ⟨g, i, none⟩ (.bool (uu || hh))) ((hg, hg + 1, Flt 4 hg (flcells ((List.range len).map (hasB L r)))) :: (g, g + 1, Flt 4 g (flcells ((List.range len).map (fun x => swU L (qs.take j) x || (decide (x < i + 1) && hasB L r x))))) :: swA z ub m (.slice ad len cap) (.slice sa m sc) qs)) := by
                    have := TI.out.fset 1 rfl hwz i (.bool (uu || hh)) (hs' := (hg, hg + 1, Flt 4 hg (flcells ((List.range len).map (hasB L r)))) :: swA z ub m (.slice ad len cap) (.slice sa m sc) qs) (by
                      intro x hx
                      simp only [swA, List.mem_cons, List.not_mem_nil, or_false] at hx ⊢
                      rcases hx with rfl | rfl | rfl | rfl
                      · exact ⟨.inl rfl, .inr hgh⟩
                      · exact ⟨.inr (.inr (.inl rfl)), .inl hub⟩
                      · exact ⟨.inr (.inr (.inr (.inl rfl))), .inl hzz⟩
                      · exact ⟨.inr (.inr (.inr (.inr rfl))), .inl (by simp only; omega)⟩)
                    rw [flcells_set, rmap_set (f' := fun x => swU L (qs.take j) x || (decide (x < i + 1) && hasB L r x)) (fun x hx => by
                      have : (x < i + 1) ↔ (x < i) := by omega
                      simp only [this]) (by simp [huu, hhh])] at this
                    refine this.drop (fun x hx => ?_)
                    simp only [List.mem_cons] at hx ⊢
                    rcases hx with hx | hx | hx
                    · exact .inr (.inl hx)
                    · exact .inl hx
                    · exact .inr (.inr hx)
                  rw [huu] at c2
                  rw [hhh] at c1
                  clear hF1 hF2 TI huu hhh
                  cases uu with
                  | true =>
                    have NX2 := NX
                    simp only [Bool.true_or] at NX2
                    clear NX
                    go_wp2
                    go_roundw
                    case rel => exact ⟨i + 1, by omega, by go_num, NX2⟩
                    case measure => simp [intOf]; omega
                  | false =>
                    have NX2 := NX
                    simp only [Bool.false_or] at NX2
                    clear NX
                    go_wp2
                    go_roundw
                    case rel => exact ⟨i + 1, by omega, by go_num, NX2⟩
                    case measure => simp [intOf]; omega
                · have NX : Hid (Tk w wr ((g, g + 1, Flt 4 g (flcells ((List.range len).map (swU L (qs.take (j + 1)))))) :: swA z ub m (.slice ad len cap) (.slice sa m sc) qs)) := by
                    have e : (List.range len).map (fun x => swU L (qs.take j) x || (decide (x < i) && hasB L r x)) = (List.range len).map (swU L (qs.take (j + 1))) := by
                      refine List.map_congr_left (fun x hx => ?_)
                      have := List.mem_range.1 hx
                      rw [decide_eq_true (show x < i by omega), Bool.true_and, swU, swU, List.take_add_one, HRR.out, List.any_append]
                      simp
                    have := TI.out
                    rw [e] at this
                    exact this.drop (fun x hx => List.mem_cons_of_mem _ hx)
                  clear TI
                  go_wp2
                  go_roundw
                  case rel => exact ⟨j + 1, by omega, by go_num, NX⟩
                  case measure => simp [intOf]; omega
          · have TU : Hid (Tk w wr ((g, g + 1, Flt 4 g (flcells ((List.range len).map (swU L qs)))) :: swA z ub m (.slice ad len cap) (.slice sa m sc) qs)) := by
              have := TJ.out
              rw [List.take_of_length_le (by have := HQL.out; omega)] at this
              exact this
            clear TJ
            obtain ⟨U, hU⟩ : ∃ U, swU L qs = U := ⟨_, rfl⟩
            have HU := hide hU
            rw [hU] at TU E
            clear hU
            obtain ⟨i1, hi1, hy0, hy1, hy2⟩ := info_parts infoInt
            go_wp2_with (at_make; refine wpList_make_full _ rfl _ _ 81 rfl wr.heap.size 3 i1 (.int .i64 0) 1 Tryz.underlying81 hi1 hy0 hy1 .i64 .i64 _ _ len rfl rfl rfl rfl (by rw [hy2]; omega) (by unfold maxLen; omega) (Nat.le_refl _) ?_)
            intro w4 hown hgrow
            rw [toList_madeCells_one] at hown
            clear hi1 hy0 hy1 hy2
            have b4 : Below wr.heap.size wr w4 := (Below.refl _ _).grown hgrow (Nat.le_refl _) (fun k hk => by cases hk)
            have hgp : g + 1 ≤ wr.heap.size := TU.out.hi 0 rfl
            have hpb : wr.heap.size + 1 ≤ w4.heap.size := (hown.lt _ rfl).2
            have T5 : Hid (Tk w (w4.alloc (.cells #[.slice none 0 0] 34)) (swD z ub m g len wr.heap.size w4.heap.size (.slice ad len cap) (.slice sa m sc) (.slice none 0 0) qs U 0)) := by
              refine ((TU.out.below b4).put hpb (Flt.loc _ _ _) ?_).cell _ _
              have e : List.replicate len (Value.int .i64 0) = icells ((List.range len).map (plK U 0)) := by
                apply List.ext_getElem?
                intro i
                by_cases h : i < len
                · simp [icells, h, plK_zero]
                · simp [icells, h]
              have := (Sli.of hown).flt
              rw [e] at this
              exact this
            have K5 : Hid (KOwn (w4.alloc (.cells #[.slice none 0 0] 34)) (w4.heap.size + 1) (.slice none 0 0) []) := KOwn.nil _ _
            obtain ⟨pb, hpbe⟩ : ∃ pb, wr.heap.size = pb := ⟨_, rfl⟩
            obtain ⟨ob, hobe⟩ : ∃ ob, w4.heap.size = ob := ⟨_, rfl⟩
            rw [hpbe] at T5 hgp hpb ⊢
            rw [hobe] at T5 K5 hpb
            clear hown hgrow b4 TU hpbe bx
            go_wp2
            clear hobe
            generalize w4.alloc (.cells #[.slice none 0 0] 34) = w5 at T5 K5 ⊢
            go_loopw [15] (fun iv W => ∃ (k : Nat) (ov : Value) (ss : List Kw), k ≤ len ∧ iv = .int .i64 k ∧ Hid (ss.map ktell = swK U L k) ∧ Hid (Tk w W (swD z ub m g len pb ob (.slice ad len cap) (.slice sa m sc) ov qs U k)) ∧ Hid (KOwn W (ob + 1) ov ss)) (fun iv _ => len - (intOf iv).toNat)
            case atStart => exact ⟨0, _, [], Nat.zero_le _, rfl, rfl, T5, K5⟩
            case round =>
              obtain ⟨k, ov, ss, hkl, rfl, HSS, TK, KO⟩ := hrel
              clear T5 K5
              have bx : wr.cell? ⟨z, 0, none⟩ = some (.slice ad len cap) := TK.out.at 5 0 rfl rfl
              by_cases hlt : (k : Int) < len
              · have hkn : k < len := by omega
                have k0 : (0 : Int) ≤ k := by omega
                have uc0 : wr.cell? ⟨g, k, none⟩ = some (.bool (U k)) := (show Flt 4 g (flcells ((List.range len).map U)) wr from TK.out.get 2 rfl).cell (flcells_get (rmap_at U hkn))
                cases hu : U k with
                | false =>
                  rw [hu] at uc0
                  have TN : Hid (Tk w wr (swD z ub m g len pb ob (.slice ad len cap) (.slice sa m sc) ov qs U (k + 1))) := by
                    have e : (List.range len).map (plK U (k + 1)) = (List.range len).map (plK U k) := List.map_congr_left (fun i _ => plK_no hu i)
                    unfold swD
                    rw [e]
                    exact TK.out
                  have HS2 : Hid (ss.map ktell = swK U L (k + 1)) := by show _ = _; rw [swK_no hu]; exact HSS.out
                  clear hu TK HSS
                  go_wp2
                  go_roundw
                  case rel => exact ⟨k + 1, ov, ss, by omega, by go_num, HS2, TN, KO⟩
                  case measure => simp [intOf]; omega
                | true =>
                  rw [hu] at uc0
                  obtain ⟨r, hr⟩ : ∃ r, rs[k]? = some r := ⟨_, List.getElem?_eq_getElem (by have := H.out.1; omega)⟩
                  obtain ⟨b, off, e, hb⟩ := H.out.adr (by omega)
                  have e' := e
                  subst e'
                  have KRW := hide (KR.out _ _ TK.out)
                  obtain ⟨c0, c1⟩ := KRW.out.cell hr
                  obtain ⟨ka, kc, hkv, hk0, kr⟩ := KRW.out.2.2.1 r (List.mem_of_getElem? hr)
                  have hx : L[k]? = some (ktell r) := by rw [← HL.out, List.getElem?_map, hr]; rfl
                  have HX := hide hx
                  obtain ⟨lf, kv, ls⟩ := r
                  simp only at c0 c1 hkv kr
                  subst hkv
                  have h4 : ls.length = 4 := knB_len (arB_at TO.out.1 hx)
                  rw [h4] at c1 kr
                  obtain ⟨kb, ko, e, hkb, hkc⟩ := kr.2.2 (by omega)
                  subst e
                  have HKC := hide hkc
                  have KIR := hide kr
                  have HU2 := hide hu
                  have H4 := hide h4
                  have TD := hide TK.out
                  have bxx := bx
                  have wl := hide (show b < wr.heap.size by have := TK.out.1.size; omega)
                  clear kr hr hx hkc hk0 hu h4 TK hb
                  have KS : Hid (∀ W, Below wr.heap.size wr W → W.cell? ⟨z, 0, none⟩ = some (.slice (some ⟨b, off, none⟩) len cap) ∧ W.cell? ⟨b, off + k * 2, none⟩ = some (.bool lf) ∧ W.cell? ⟨b, off + k * 2 + 1, none⟩ = some (.slice (some ⟨kb, ko, none⟩) 4 kc)) := fun W hW =>
                    ⟨(TD.out.below hW).at 5 0 rfl rfl, (hW.cell (show b < wr.heap.size from wl.out)).trans c0, (hW.cell (show b < wr.heap.size from wl.out)).trans c1⟩
                  have SR : Hid (∀ W, Below wr.heap.size wr W → ∀ (j : Nat) (u : Value), (icells ls)[j]? = some u → W.cell? ((⟨kb, ko, none⟩ : Addr).add j) = some u) := fun W hW j u hj => (KIR.out.below hW).cells j u hj
                  have W1 : Hid (Below wr.heap.size wr (wr.alloc (.cells #[] 3)).drew) := ((Below.refl _ _).alloc (Nat.le_refl _) _).drew
                  have WX : Hid (Below wr.heap.size wr (wr.alloc (.cells #[.bool false, .slice none 0 0] 84)).drew) := ((Below.refl _ _).alloc (Nat.le_refl _) _).drew
                  have W2 : Hid (Below wr.heap.size wr ((wr.alloc (.cells #[] 3)).alloc (.cells #[.bool false, .slice none 0 0] 84)).drew) := (((Below.refl _ _).alloc (Nat.le_refl _) _).alloc (by simp) _).drew
                  have W3 : Hid (Below wr.heap.size wr ((wr.alloc (.cells #[.bool false, .slice none 0 0] 84)).alloc (.cells #[] 3)).drew) := (((Below.refl _ _).alloc (Nat.le_refl _) _).alloc (by simp) _).drew
                  have ze : (wr.alloc (.cells #[] 3)).heap.size = wr.heap.size + 1 := by simp
                  have zx : (wr.alloc (.cells #[.bool false, .slice none 0 0] 84)).heap.size = wr.heap.size + 1 := by simp
                  have O1 : Hid ((wr.alloc (.cells #[] 3)).drew.ownsRow wr.heap.size 3 1 (.slice (some ⟨wr.heap.size, 0, none⟩) 0 0) 0 []) := row_none (heap_alloc_new wr _) (Nat.le_refl _)
                  have O2 : Hid (((wr.alloc (.cells #[] 3)).alloc (.cells #[.bool false, .slice none 0 0] 84)).drew.ownsRow wr.heap.size 3 1 (.slice (some ⟨wr.heap.size, 0, none⟩) 0 0) 0 []) := row_none ((Below.heap_alloc _ _ _ (by simp)).trans (heap_alloc_new wr _)) (Nat.le_refl _)
                  have O3 : Hid (((wr.alloc (.cells #[.bool false, .slice none 0 0] 84)).alloc (.cells #[] 3)).drew.ownsRow wr.heap.size 3 1 (.slice (some ⟨wr.heap.size + 1, 0, none⟩) 0 0) 0 []) := row_none (by have := heap_alloc_new (wr.alloc (.cells #[.bool false, .slice none 0 0] 84)) (.cells #[] 3); rw [zx] at this; exact this) (by omega)
                  have X2 : Hid (((wr.alloc (.cells #[] 3)).alloc (.cells #[.bool false, .slice none 0 0] 84)).drew.heap[wr.heap.size + 1]? = some (.cells #[.bool false, .slice none 0 0] 84 (0, 0))) := by have := heap_alloc_new (wr.alloc (.cells #[] 3)) (.cells #[.bool false, .slice none 0 0] 84); rw [ze] at this; exact this
                  have X3 : Hid (((wr.alloc (.cells #[.bool false, .slice none 0 0] 84)).alloc (.cells #[] 3)).drew.heap[wr.heap.size]? = some (.cells #[.bool false, .slice none 0 0] 84 (0, 0))) := (Below.heap_alloc _ _ _ (by simp)).trans (heap_alloc_new wr _)
                  have L4 : Hid ((icells ls).length = 4 * 1) := by show _ = _; simp [icells, H4.out]
                  clear ze zx
                  go_upto_region 24 with fail
                  go_cut [16] (fun s16 wc => ∃ xb vb vc : Nat, s16 = .pointer (some ⟨xb, 0, none⟩) ∧ Hid (XSt wr wc xb vb vc lf ls))
                  case first =>
                    go_region_held3 (fun w' => w'.cell? ⟨z, 0, none⟩ = some (.slice (some ⟨b, off, none⟩) len cap) ∧ w'.cell? ⟨b, off + k * 2, none⟩ = some (.bool lf) ∧ w'.cell? ⟨b, off + k * 2 + 1, none⟩ = some (.slice (some ⟨kb, ko, none⟩) 4 kc)) (first | go_keep | exact KS.out _ W1.out | exact KS.out _ WX.out | exact KS.out _ W2.out | exact KS.out _ W3.out | exact KS.out _ BB.out | exact KS.out _ (BB.out.alloc BB.out.size _) | exact KS.out _ (XL.out.2.2.1) | exact KS.out _ (XE.out.2.2.1)) (first
                      | (refine step_append_own _ (by rfl) (.tmp 102) (.tmp 108) 81 (by rfl) wr.heap.size 3 i0 (.int .i64 0) 1 8 Tryz.underlying81 I0.out Y0.out Y1.out Y2.out rfl (by decide) _ 0 [] (by simp [Act.eval]) O1.out ⟨kb, ko, none⟩ 4 kc (icells ls) (by simp [Act.eval]) L4.out (SR.out _ W1.out) (icells_one _) (by unfold maxLen; omega) (by omega) W1.out.size ?_; intro v6 w6 o6 g6; (have o7 : w6.ownsRow wr.heap.size 3 1 v6 4 (icells ls) := o6); (obtain ⟨vb, vc, hv6, hf6, hvb⟩ := flt_of o7); subst hv6; have BB : Hid (Below wr.heap.size wr w6) := W1.out.grown g6 W1.out.size (fun q hq => by cases hq; exact Nat.le_refl _); have XL : Hid (XSt wr (w6.alloc (.cells #[.bool lf, .slice (some ⟨vb, 0, none⟩) 4 vc] 84)) w6.heap.size vb vc lf ls) := XSt.late BB.out hf6 hvb; clear o6 o7 g6 hf6 hvb)
                      | (refine step_append_own _ (by rfl) (.tmp 102) (.tmp 108) 81 (by rfl) wr.heap.size 3 i0 (.int .i64 0) 1 8 Tryz.underlying81 I0.out Y0.out Y1.out Y2.out rfl (by decide) _ 0 [] (by simp [Act.eval]) O2.out ⟨kb, ko, none⟩ 4 kc (icells ls) (by simp [Act.eval]) L4.out (SR.out _ W2.out) (icells_one _) (by unfold maxLen; omega) (by omega) W2.out.size ?_; intro v6 w6 o6 g6; (have o7 : w6.ownsRow wr.heap.size 3 1 v6 4 (icells ls) := o6); (obtain ⟨vb, vc, hv6, hf6, hvb⟩ := flt_of o7); subst hv6; have BB : Hid (Below wr.heap.size wr w6) := W2.out.grown g6 W2.out.size (fun q hq => by cases hq; exact Nat.le_refl _); have hx6 : w6.heap[wr.heap.size + 1]? = some (.cells #[.bool false, .slice none 0 0] 84 (0, 0)) := (g6.block (wr.heap.size + 1) (Array.getElem?_eq_some_iff.1 X2.out).1 (fun e => by simp [Value.ownBlock] at e)).trans X2.out; have d0 := cell_of_row _ _ 0 _ _ _ hx6; have d1 := cell_of_row _ _ 1 _ _ _ hx6; have e0 := frozen_of_row _ _ 0 _ _ hx6; have e1 := frozen_of_row _ _ 1 _ _ hx6; have XE : Hid (XSt wr ((w6.setCell ⟨wr.heap.size + 1, 0, none⟩ (.bool lf)).setCell ⟨wr.heap.size + 1, 1, none⟩ (.slice (some ⟨vb, 0, none⟩) 4 vc)) (wr.heap.size + 1) vb vc lf ls) := XSt.early BB.out hx6 (by omega) hf6 hvb; clear o6 o7 g6 hf6 hvb hx6)
                      | (refine step_append_own _ (by rfl) (.tmp 102) (.tmp 108) 81 (by rfl) wr.heap.size 3 i0 (.int .i64 0) 1 8 Tryz.underlying81 I0.out Y0.out Y1.out Y2.out rfl (by decide) _ 0 [] (by simp [Act.eval]) O3.out ⟨kb, ko, none⟩ 4 kc (icells ls) (by simp [Act.eval]) L4.out (SR.out _ W3.out) (icells_one _) (by unfold maxLen; omega) (by omega) W3.out.size ?_; intro v6 w6 o6 g6; (have o7 : w6.ownsRow wr.heap.size 3 1 v6 4 (icells ls) := o6); (obtain ⟨vb, vc, hv6, hf6, hvb⟩ := flt_of o7); subst hv6; have BB : Hid (Below wr.heap.size wr w6) := W3.out.grown g6 W3.out.size (fun q hq => by cases hq; show wr.heap.size ≤ wr.heap.size + 1; omega); have hx6 : w6.heap[wr.heap.size]? = some (.cells #[.bool false, .slice none 0 0] 84 (0, 0)) := (g6.block wr.heap.size (Array.getElem?_eq_some_iff.1 X3.out).1 (fun e => by simp [Value.ownBlock] at e)).trans X3.out; have d0 := cell_of_row _ _ 0 _ _ _ hx6; have d1 := cell_of_row _ _ 1 _ _ _ hx6; have e0 := frozen_of_row _ _ 0 _ _ hx6; have e1 := frozen_of_row _ _ 1 _ _ hx6; have XE : Hid (XSt wr ((w6.setCell ⟨wr.heap.size, 0, none⟩ (.bool lf)).setCell ⟨wr.heap.size, 1, none⟩ (.slice (some ⟨vb, 0, none⟩) 4 vc)) wr.heap.size vb vc lf ls) := XSt.early BB.out hx6 (Nat.le_refl _) hf6 hvb; clear o6 o7 g6 hf6 hvb hx6))
                    all_goals
                      go_wp2_with fail
                      go_meet
                      case rel => first
                        | exact ⟨_, _, _, rfl, XL⟩
                        | exact ⟨_, _, _, rfl, XE⟩
                  case rest =>
                    obtain ⟨wq, hwc⟩ : ∃ wq, wq = wc := ⟨_, rfl⟩
                    subst hwc
                    obtain ⟨xb, vb, vc, hs16, XS⟩ := hcut
                    subst hs16
                    have hobw : ob + 1 ≤ wr.heap.size := TD.out.hi 0 rfl
                    have TQ := hide (TD.out.below XS.out.2.2.1)
                    have KQ := hide (KO.out.below XS.out.2.2.1)
                    have KLT : Hid (∀ x ∈ ss, ∀ q, x.2.1.ownBlock = some q → q < wr.heap.size) := fun x hx q hq => ((KO.out.2.1 x hx).1.lt q hq).2.1
                    clear O1 O2 O3 X2 X3 W1 W2 W3 WX L4 SR KS KIR HKC c0 c1 uc0 bxx KRW bx
                    obtain ⟨wo, hwo⟩ : ∃ wo, wo = wr := ⟨_, rfl⟩
                    subst hwo
                    have X0 : Hid (XSt wo wq xb vb vc lf (pKids U lf ls 0)) := by rw [pKids_zero]; exact XS
                    clear XS TQ KQ
                    go_wp2
                    go_loopw [17] (fun iv W => ∃ q : Nat, q ≤ 4 ∧ iv = .int .i64 q ∧ Hid (XSt wo W xb vb vc lf (pKids U lf ls q))) (fun iv _ => 4 - (intOf iv).toNat)
                    case atStart => exact ⟨0, by omega, rfl, X0⟩
                    case round =>
                      obtain ⟨q, hq4, rfl, HX5⟩ := hrel
                      clear X0
                      have xl : wr.cell? ⟨xb, 0, none⟩ = some (.bool lf) := cell_of_row _ _ 0 _ _ _ HX5.out.1
                      by_cases hgo : (q : Int) < 4 ∧ lf = false
                      · obtain ⟨hlt5, rfl⟩ := hgo
                        obtain ⟨n, hn⟩ : ∃ n, ls[q]? = some n := ⟨_, List.getElem?_eq_getElem (by have := H4.out; omega)⟩
                        have xk : wr.cell? ⟨xb, 1, none⟩ = some (.slice (some ⟨vb, 0, none⟩) 4 vc) := cell_of_row _ _ 1 _ _ _ HX5.out.1
                        have vq : wr.cell? ⟨vb, q, none⟩ = some (.int .i64 n) := HX5.out.2.1.cell (icells_get (pKids_at hn))
                        have vf := HX5.out.2.1.frozen q
                        have q0 : (0 : Int) ≤ q := by omega
                        obtain ⟨n', hn', hc⟩ := inner_kid TO.out.1 (r := (k : Int)) (by rw [Int.toNat_natCast]; exact HX.out) rfl (show q < 4 by omega)
                        have hnn : ls[q]? = some n' := hn'
                        rw [hn] at hnn
                        cases hnn
                        by_cases hneg : n < 0
                        · have NX : Hid (XSt wo wr xb vb vc false (pKids U false ls (q + 1))) := by rw [← pKids_same hn (swP_neg U hneg)]; exact HX5
                          clear hc hn hn' HX5
                          go_wp2
                          go_roundw
                          case rel => exact ⟨q + 1, by omega, by go_num, NX⟩
                          case measure => simp [intOf]; omega
                        · obtain ⟨a, rfl⟩ : ∃ a : Nat, n = (a : Int) := ⟨n.toNat, by omega⟩
                          have hak : a < k := by
                            rcases hc with hc | ⟨-, hc, -⟩
                            · omega
                            · simp only [Int.toNat_natCast] at hc; omega
                          have hUa : U a = true := by
                            have := swU_kid TO.out HX.out rfl (by rw [HU.out]; exact HU2.out) (show q < 4 by omega) hn
                            rw [HU.out] at this
                            exact this
                          have pa : wr.cell? ⟨pb, a, none⟩ = some (.int .i64 (swN U a)) := by
                            have hF : Flt 3 pb (icells ((List.range len).map (plK U k))) wr := (TD.out.below HX5.out.2.2.1).get 1 rfl
                            have := hF.cell (icells_get (rmap_at (plK U k) (show a < len by omega)))
                            rw [plK_at hak hUa] at this
                            exact this
                          have NX : Hid (XSt wo (wr.setCell ⟨vb, q, none⟩ (.int .i64 (swN U a))) xb vb vc false (pKids U false ls (q + 1))) := by
                            have := HX5.out.set (q := q) (swP U (a : Int))
                            rw [pKids_set hn, swP_pos] at this
                            exact this
                          have a0 : (0 : Int) ≤ a := by omega
                          have al : (a : Int) < len := by omega
                          obtain ⟨sa2, hsa2⟩ : ∃ sa2, swN U a = sa2 := ⟨_, rfl⟩
                          rw [hsa2] at pa NX
                          have hxv : xb ≠ vb := HX5.out.ne
                          have NXD : Hid (XSt wo (wr.setCell ⟨vb, q, none⟩ (.int .i64 sa2)).drew xb vb vc false (pKids U false ls (q + 1))) := ⟨NX.out.1, NX.out.2.1, NX.out.2.2.1.drew, NX.out.2.2.2⟩
                          clear hc hn hn' HX5 NX hak hUa hsa2
                          go_wp2
                          go_region
                          all_goals
                            go_wp2
                            go_roundw
                            case rel => exact ⟨q + 1, by omega, by go_num, NXD⟩
                            case measure => simp [intOf]; omega
                      · have XF : Hid (XSt wo wr xb vb vc lf (swX U ⟨lf, ls⟩).kids) := by
                          have e := pKids_all (u := U) (lf := lf) (q := q) H4.out (by
                            cases lf with
                            | true => exact .inl rfl
                            | false => exact .inr (by have : ¬ (q : Int) < 4 := fun h => hgo ⟨h, rfl⟩
                                                      omega))
                          have := HX5.out
                          have e2 : pKids U lf ls q = (swX U ⟨lf, ls⟩).kids := by rw [← e]
                          rw [e2] at this
                          exact this
                        have TW := hide (TD.out.below XF.out.2.2.1)
                        have KW := hide (KO.out.below XF.out.2.2.1)
                        have HKL : Hid (swN U k = ss.length) := by
                          show _ = _
                          have := congrArg List.length HSS.out
                          rw [List.length_map, swK_len (by have := HLn.out; omega)] at this
                          exact this.symm
                        obtain ⟨oa, oc, hov⟩ := KW.out.form
                        subst hov
                        obtain ⟨sn, hsn⟩ : ∃ sn, ss.length = sn := ⟨_, rfl⟩
                        rw [hsn] at HKL TW KW
                        have HSN := hide hsn
                        have hsnk : sn ≤ k := by have := swN_le U k; have := HKL.out; omega
                        have oc0 : wr.cell? ⟨ob, 0, none⟩ = some (.slice oa sn oc) := TW.out.at 0 0 rfl rfl
                        have hFp : Flt 3 pb (icells ((List.range len).map (plK U k))) wr := TW.out.get 1 rfl
                        have pc := hFp.cell (icells_get (rmap_at (plK U k) hkn))
                        have pf := hFp.frozen k
                        have TP : Hid (Tk w (wr.setCell ⟨pb, k, none⟩ (.int .i64 (sn : Int))) (swD z ub m g len pb ob (.slice (some ⟨b, off, none⟩) len cap) (.slice sa m sc) (.slice oa sn oc) qs U (k + 1))) := by
                          have := TW.out.fset 1 rfl (by omega) k (.int .i64 (sn : Int)) (hs' := (ob, ob + 1, Cel ob #[.slice oa sn oc] 34) :: (g, g + 1, Flt 4 g (flcells ((List.range len).map U))) :: [(z + 2, ub, Sli 3 (z + 2) ub (.slice sa m sc) m (icells qs)), (z + 1, z + 1 + 1, Cel (z + 1) #[.slice none 0 0] 34), (z, z + 1, Cel z #[.slice (some ⟨b, off, none⟩) len cap] 34)]) (by
                            intro x hx
                            simp only [swD, List.mem_cons, List.not_mem_nil, or_false] at hx ⊢
                            rcases hx with rfl | rfl | rfl | rfl | rfl
                            · exact ⟨.inl rfl, .inr hpb⟩
                            · exact ⟨.inr (.inr (.inl rfl)), .inl hgp⟩
                            · exact ⟨.inr (.inr (.inr (.inl rfl))), .inl (by simp only; omega)⟩
                            · exact ⟨.inr (.inr (.inr (.inr (.inl rfl)))), .inl (by simp only; omega)⟩
                            · exact ⟨.inr (.inr (.inr (.inr (.inr rfl)))), .inl (by simp only; omega)⟩)
                          have e1 : (icells ((List.range len).map (plK U k))).set k (.int .i64 (sn : Int)) = icells ((List.range len).map (plK U (k + 1))) := by
                            rw [← rmap_set (f := plK U k) (f' := plK U (k + 1)) (k := k) (b := (sn : Int)) (fun i hi => plK_yes i hi) (by rw [plK_at (by omega) HU2.out, HKL.out])]
                            simp [icells, List.map_set]
                          rw [e1] at this
                          refine this.drop (fun x hx => ?_)
                          simp only [swD, List.mem_cons] at hx ⊢
                          rcases hx with hx | hx | hx
                          · exact .inr (.inl hx)
                          · exact .inl hx
                          · exact .inr (.inr hx)
                        have KP : Hid (KOwn (wr.setCell ⟨pb, k, none⟩ (.int .i64 (sn : Int))) (ob + 1) (.slice oa sn oc) ss) := KW.out.cellB (by omega) _ _
                        have XP : Hid (XSt wo wr xb vb vc lf (swX U ⟨lf, ls⟩).kids) := XF
                        have hxo : ob + 1 ≤ xb := Nat.le_trans hobw XF.out.2.2.2.1
                        have hvo : ob + 1 ≤ vb := Nat.le_trans hobw XF.out.2.2.2.2
                        have xr : (wr.setCell ⟨pb, k, none⟩ (.int .i64 (sn : Int))).heap[xb]? = some (.cells #[.bool lf, .slice (some ⟨vb, 0, none⟩) 4 vc] 84 (0, 0)) := row_set_ne XF.out.1 (by omega) _ _
                        have x0 := cell_of_row _ _ 0 _ _ _ xr
                        have x1 := cell_of_row _ _ 1 _ _ _ xr
                        have oc1 : (wr.setCell ⟨pb, k, none⟩ (.int .i64 (sn : Int))).cell? ⟨ob, 0, none⟩ = some (.slice oa sn oc) := TP.out.at 0 0 rfl rfl
                        have vF : Flt 3 vb (icells (swX U ⟨lf, ls⟩).kids) (wr.setCell ⟨pb, k, none⟩ (.int .i64 (sn : Int))) := Flt.loc _ _ _ _ _ (fun q q1 q2 => Below.heap_setCell _ _ _ _ (show q ≠ pb by omega)) XF.out.2.1
                        have VF := hide vF
                        have HSZ : Hid ((wr.setCell ⟨pb, k, none⟩ (.int .i64 (sn : Int))).heap.size = wr.heap.size) := by show _ = _; simp [World.setCell]
                        have BA : Hid (Below (wr.setCell ⟨pb, k, none⟩ (.int .i64 (sn : Int))).heap.size (wr.setCell ⟨pb, k, none⟩ (.int .i64 (sn : Int))) ((wr.setCell ⟨pb, k, none⟩ (.int .i64 (sn : Int))).alloc (.cells #[.bool lf, .slice (some ⟨vb, 0, none⟩) 4 vc] 84))) := (Below.refl _ _).alloc (Nat.le_refl _) _
                        have KA := hide (KP.out.below BA.out)
                        have TA := hide (TP.out.below BA.out)
                        have OW : Hid (((wr.setCell ⟨pb, k, none⟩ (.int .i64 (sn : Int))).alloc (.cells #[.bool lf, .slice (some ⟨vb, 0, none⟩) 4 vc] 84)).ownsRow (ob + 1) 84 2 (.slice oa sn oc) sn (kncells ss)) := by have := KA.out.1; rw [HSN.out] at this; exact this
                        have CN : Hid (∀ (j : Nat) (u : Value), [Value.bool lf, Value.slice (some ⟨vb, 0, none⟩) 4 vc][j]? = some u → ((wr.setCell ⟨pb, k, none⟩ (.int .i64 (sn : Int))).alloc (.cells #[.bool lf, .slice (some ⟨vb, 0, none⟩) 4 vc] 84)).cell? ((⟨wr.heap.size, 0, none⟩ : Addr).add j) = some u) := by
                          have := kn_new (wr.setCell ⟨pb, k, none⟩ (.int .i64 (sn : Int))) lf (.slice (some ⟨vb, 0, none⟩) 4 vc)
                          rw [HSZ.out] at this
                          exact this
                        have HBO : Hid (ob + 1 ≤ ((wr.setCell ⟨pb, k, none⟩ (.int .i64 (sn : Int))).alloc (.cells #[.bool lf, .slice (some ⟨vb, 0, none⟩) 4 vc] 84)).heap.size) := TA.out.hi 0 rfl
                        obtain ⟨j0, hj0, hw0, hw1', hw2'⟩ := info_parts infoKn
                        have J0 := hide hj0
                        have V0 := hide hw0
                        have V1 := hide hw1'
                        have V2 := hide hw2'
                        have SNR : Hid (ss.map ktell ++ [swX U ⟨lf, ls⟩] = swK U L (k + 1)) := by show _ = _; rw [swK_yes HU2.out HX.out, HSS.out]; rfl
                        have X4 : Hid ((swX U ⟨lf, ls⟩).kids.length = 4) := by
                          show _ = _
                          unfold swX
                          split
                          · exact H4.out
                          · rw [List.length_map]; exact H4.out
                        have XLF : Hid ((swX U ⟨lf, ls⟩).leaf = lf) := swX_leaf U ⟨lf, ls⟩
                        obtain ⟨xs, hxs⟩ : ∃ xs, (swX U ⟨lf, ls⟩).kids = xs := ⟨_, rfl⟩
                        have XE : Hid (swX U ⟨lf, ls⟩ = ⟨lf, xs⟩) := by
                          show _ = _
                          rw [← hxs]
                          have := XLF.out
                          cases hq : swX U ⟨lf, ls⟩
                          rw [hq] at this
                          simp only at this ⊢
                          rw [this]
                        rw [hxs] at X4 VF
                        rw [XE.out] at SNR
                        have CLT : Hid (wo.heap.size ≤ vb ∧ vb < wr.heap.size ∧ ob + 1 ≤ wo.heap.size) := ⟨XP.out.2.2.2.2, XP.out.vlt, hobw⟩
                        have hgo2 := hgo
                        clear hj0 hw0 hw1' hw2' hgo TW KW hFp vF hsn XF HX5 XP XLF hxs xr KO TD
                        by_cases hgc : (q : Int) < 4
                        · have hlt' : lf = true := by
                            cases lf with
                            | true => rfl
                            | false => exact absurd ⟨hgc, rfl⟩ hgo2
                          clear hgo2
                          subst hlt'
                          go_wp2_with (at_builtin; refine wpList_append_own _ rfl _ _ 32 rfl (ob + 1) 84 j0 (.agg #[.bool false, .slice none 0 0]) 2 32 Tryz.underlying32 J0.out V0.out V1.out V2.out rfl (by decide) _ sn (kncells ss) rfl OW.out ⟨wr.heap.size, 0, none⟩ 1 1 [.bool true, .slice (some ⟨vb, 0, none⟩) 4 vc] rfl rfl CN.out (kn_one _ _ _ _) ?c1 ?c2 HBO.out ?_)
                          case c1 => unfold maxLen; omega
                          case c2 => omega
                          intro u' y ho hgr _
                          have TY : Hid (Tk w y (swD z ub m g len pb ob (.slice (some ⟨b, off, none⟩) len cap) (.slice sa m sc) (.slice oa sn oc) qs U (k + 1))) := TA.out.grownB (B := ob + 1) hgr (fun q hq => (own_kind OW.out q hq).1) (by omega) (by
                            intro x hx
                            simp only [swD, List.mem_cons, List.not_mem_nil, or_false] at hx
                            rcases hx with rfl | rfl | rfl | rfl | rfl | rfl <;> (simp only; omega))
                          have hoy : y.ownsRow (ob + 1) 84 2 u' (ss ++ [(true, Value.slice (some ⟨vb, 0, none⟩) 4 vc, xs)]).length (kncells (ss ++ [(true, Value.slice (some ⟨vb, 0, none⟩) 4 vc, xs)])) := by
                            rw [← kncells_snoc, List.length_append, HSN.out]
                            exact ho
                          have KY : Hid (KOwn y (ob + 1) u' (ss ++ [(true, Value.slice (some ⟨vb, 0, none⟩) 4 vc, xs)])) := by
                            refine KOwn.snoc2 (C := wo.heap.size) KA.out KLT.out CLT.out.2.2 ?_ (by rw [X4.out]; unfold maxLen; omega) hgr hoy
                            have hlt2 : vb < ((wr.setCell ⟨pb, k, none⟩ (.int .i64 (sn : Int))).alloc (.cells #[.bool true, .slice (some ⟨vb, 0, none⟩) 4 vc] 84)).heap.size := Nat.lt_of_lt_of_le (by rw [HSZ.out]; exact CLT.out.2.1) BA.out.size
                            show Sli 3 _ _ (.slice (some ⟨vb, 0, none⟩) 4 vc) xs.length _ _
                            rw [X4.out]
                            exact .inr ⟨vb, vc, rfl, CLT.out.1, hlt2, VF.out.below BA.out⟩
                          obtain ⟨ua, uc, hu', -⟩ := (Sli.of ho).form
                          subst hu'
                          have oy : y.cell? ⟨ob, 0, none⟩ = some (.slice oa sn oc) := TY.out.at 0 0 rfl rfl
                          have fy : y.frozen? ⟨ob, 0, none⟩ = false := TY.out.fr 0 0 rfl
                          have TN : Hid (Tk w (y.setCell ⟨ob, 0, none⟩ (.slice ua (sn + 1) uc)) (swD z ub m g len pb ob (.slice (some ⟨b, off, none⟩) len cap) (.slice sa m sc) (.slice ua (sn + 1) uc) qs U (k + 1))) := by
                            refine TY.out.write 0 rfl (by omega) _ (fun x hx => ⟨List.mem_cons_of_mem _ hx, .inl ?_⟩)
                            simp only [List.mem_cons, List.not_mem_nil, or_false] at hx
                            rcases hx with rfl | rfl | rfl | rfl | rfl <;> (simp only; omega)
                          have KN : Hid (KOwn (y.setCell ⟨ob, 0, none⟩ (.slice ua (sn + 1) uc)) (ob + 1) (.slice ua (sn + 1) uc) (ss ++ [(true, Value.slice (some ⟨vb, 0, none⟩) 4 vc, xs)])) := KY.out.cellB (by omega) _ _
                          have HSN2 : Hid ((ss ++ [(true, Value.slice (some ⟨vb, 0, none⟩) 4 vc, xs)]).map ktell = swK U L (k + 1)) := by show _ = _; rw [List.map_append]; exact SNR.out
                          generalize ss ++ [(true, Value.slice (some ⟨vb, 0, none⟩) 4 vc, xs)] = ss2 at KN HSN2
                          clear ho hgr hoy TY KY TA KA TP KP OW CN HBO BA VF HSZ
                          go_wp2
                          go_roundw
                          case rel => exact ⟨k + 1, _, ss2, by omega, by go_num, HSN2, TN, KN⟩
                          case measure => simp [intOf]; omega
                        · clear hgo2
                          go_wp2_with (at_builtin; refine wpList_append_own _ rfl _ _ 32 rfl (ob + 1) 84 j0 (.agg #[.bool false, .slice none 0 0]) 2 32 Tryz.underlying32 J0.out V0.out V1.out V2.out rfl (by decide) _ sn (kncells ss) rfl OW.out ⟨wr.heap.size, 0, none⟩ 1 1 [.bool lf, .slice (some ⟨vb, 0, none⟩) 4 vc] rfl rfl CN.out (kn_one _ _ _ _) ?c1 ?c2 HBO.out ?_)
                          case c1 => unfold maxLen; omega
                          case c2 => omega
                          intro u' y ho hgr _
                          have TY : Hid (Tk w y (swD z ub m g len pb ob (.slice (some ⟨b, off, none⟩) len cap) (.slice sa m sc) (.slice oa sn oc) qs U (k + 1))) := TA.out.grownB (B := ob + 1) hgr (fun q hq => (own_kind OW.out q hq).1) (by omega) (by
                            intro x hx
                            simp only [swD, List.mem_cons, List.not_mem_nil, or_false] at hx
                            rcases hx with rfl | rfl | rfl | rfl | rfl | rfl <;> (simp only; omega))
                          have hoy : y.ownsRow (ob + 1) 84 2 u' (ss ++ [(lf, Value.slice (some ⟨vb, 0, none⟩) 4 vc, xs)]).length (kncells (ss ++ [(lf, Value.slice (some ⟨vb, 0, none⟩) 4 vc, xs)])) := by
                            rw [← kncells_snoc, List.length_append, HSN.out]
                            exact ho
                          have KY : Hid (KOwn y (ob + 1) u' (ss ++ [(lf, Value.slice (some ⟨vb, 0, none⟩) 4 vc, xs)])) := by
                            refine KOwn.snoc2 (C := wo.heap.size) KA.out KLT.out CLT.out.2.2 ?_ (by rw [X4.out]; unfold maxLen; omega) hgr hoy
                            have hlt2 : vb < ((wr.setCell ⟨pb, k, none⟩ (.int .i64 (sn : Int))).alloc (.cells #[.bool lf, .slice (some ⟨vb, 0, none⟩) 4 vc] 84)).heap.size := Nat.lt_of_lt_of_le (by rw [HSZ.out]; exact CLT.out.2.1) BA.out.size
                            show Sli 3 _ _ (.slice (some ⟨vb, 0, none⟩) 4 vc) xs.length _ _
                            rw [X4.out]
                            exact .inr ⟨vb, vc, rfl, CLT.out.1, hlt2, VF.out.below BA.out⟩
                          obtain ⟨ua, uc, hu', -⟩ := (Sli.of ho).form
                          subst hu'
                          have oy : y.cell? ⟨ob, 0, none⟩ = some (.slice oa sn oc) := TY.out.at 0 0 rfl rfl
                          have fy : y.frozen? ⟨ob, 0, none⟩ = false := TY.out.fr 0 0 rfl
                          have TN : Hid (Tk w (y.setCell ⟨ob, 0, none⟩ (.slice ua (sn + 1) uc)) (swD z ub m g len pb ob (.slice (some ⟨b, off, none⟩) len cap) (.slice sa m sc) (.slice ua (sn + 1) uc) qs U (k + 1))) := by
                            refine TY.out.write 0 rfl (by omega) _ (fun x hx => ⟨List.mem_cons_of_mem _ hx, .inl ?_⟩)
                            simp only [List.mem_cons, List.not_mem_nil, or_false] at hx
                            rcases hx with rfl | rfl | rfl | rfl | rfl <;> (simp only; omega)
                          have KN : Hid (KOwn (y.setCell ⟨ob, 0, none⟩ (.slice ua (sn + 1) uc)) (ob + 1) (.slice ua (sn + 1) uc) (ss ++ [(lf, Value.slice (some ⟨vb, 0, none⟩) 4 vc, xs)])) := KY.out.cellB (by omega) _ _
                          have HSN2 : Hid ((ss ++ [(lf, Value.slice (some ⟨vb, 0, none⟩) 4 vc, xs)]).map ktell = swK U L (k + 1)) := by show _ = _; rw [List.map_append]; exact SNR.out
                          generalize ss ++ [(lf, Value.slice (some ⟨vb, 0, none⟩) 4 vc, xs)] = ss2 at KN HSN2
                          clear ho hgr hoy TY KY TA KA TP KP OW CN HBO BA VF HSZ
                          go_wp2
                          go_roundw
                          case rel => exact ⟨k + 1, _, ss2, by omega, by go_num, HSN2, TN, KN⟩
                          case measure => simp [intOf]; omega
              · have ekl : k = len := by omega
                subst ekl
                have SW : Hid (ss.map ktell = swL L qs) := by show _ = _; rw [HSS.out, swL, HU.out, HLn.out]
                have T6 : Hid (Tk w wr (swD z ub m g k pb ob (.slice ad k cap) (.slice sa m sc) ov (pKids U false qs 0) U k)) := by rw [pKids_zero]; exact TK
                have UR : Hid (∀ (r : Int), r ∈ qs → 0 ≤ r → ∃ a : Nat, r = (a : Int) ∧ a < k ∧ U a = true) := fun r hr h0 => by
                  obtain ⟨x, hx, -⟩ := rootB_pos (TO.out.2 r hr) h0
                  have h1 := (List.getElem?_eq_some_iff.1 hx).1
                  have h2 := swU_root (l := L) hr h0
                  rw [HU.out] at h2
                  exact ⟨r.toNat, by omega, by have := HLn.out; omega, h2⟩
                have K6 := KO
                clear KO TK HSS
                go_wp2
                clear bx
                go_loopw [18] (fun iv W => ∃ j : Nat, j ≤ m ∧ iv = .int .i64 j ∧ Hid (Tk w W (swD z ub m g k pb ob (.slice ad k cap) (.slice sa m sc) ov (pKids U false qs j) U k)) ∧ Hid (KOwn W (ob + 1) ov ss)) (fun iv _ => m - (intOf iv).toNat)
                case atStart => exact ⟨0, Nat.zero_le _, rfl, T6, K6⟩
                case round =>
                  obtain ⟨j, hj, rfl, TJ, KJ⟩ := hrel
                  clear T6 K6
                  by_cases hlt6 : (j : Int) < m
                  · obtain ⟨r, hr⟩ : ∃ r, qs[j]? = some r := ⟨_, List.getElem?_eq_getElem (by have := HQL.out; omega)⟩
                    have hS : Sli 3 (z + 2) ub (.slice sa m sc) m (icells (pKids U false qs j)) wr := TJ.out.get 3 rfl
                    obtain ⟨sb, hsb, hs1, hs2⟩ : ∃ sb, sa = some ⟨sb, 0, none⟩ ∧ z + 2 ≤ sb ∧ sb < ub := by
                      obtain ⟨ad', c', e, q⟩ := hS.form
                      injection e with e1 e2 e3
                      subst e1
                      exact q (by omega)
                    subst hsb
                    have sc0 : wr.cell? ⟨sb, j, none⟩ = some (.int .i64 r) := hS.flt.cell (icells_get (pKids_at hr))
                    have sf0 := hS.flt.frozen j
                    have j00 : (0 : Int) ≤ j := by omega
                    by_cases hneg : r < 0
                    · have TN : Hid (Tk w wr (swD z ub m g k pb ob (.slice ad k cap) (.slice (some ⟨sb, 0, none⟩) m sc) ov (pKids U false qs (j + 1)) U k)) := by rw [← pKids_same hr (swP_neg U hneg)]; exact TJ
                      clear hr hS TJ
                      go_wp2
                      go_roundw
                      case rel => exact ⟨j + 1, by omega, by go_num, TN, KJ⟩
                      case measure => simp [intOf]; omega
                    · obtain ⟨a, rfl, hak, hUa⟩ := UR.out r (List.mem_of_getElem? hr) (by omega)
                      have pa : wr.cell? ⟨pb, a, none⟩ = some (.int .i64 (swN U a)) := by
                        have hF : Flt 3 pb (icells ((List.range k).map (plK U k))) wr := TJ.out.get 1 rfl
                        have := hF.cell (icells_get (rmap_at (plK U k) hak))
                        rw [plK_at hak hUa] at this
                        exact this
                      have TN : Hid (Tk w (wr.setCell ⟨sb, j, none⟩ (.int .i64 (swN U a))) (swD z ub m g k pb ob (.slice ad k cap) (.slice (some ⟨sb, 0, none⟩) m sc) ov (pKids U false qs (j + 1)) U k)) := by
                        have e1 : (icells (pKids U false qs j)).set j (.int .i64 (swN U a)) = icells (pKids U false qs (j + 1)) := by
                          rw [← pKids_set hr, swP_pos]
                          simp [icells, List.map_set]
                        have hq := hS.setAt j (.int .i64 (swN U a : Int))
                        rw [e1] at hq
                        have hz2 := HZ.out
                        have := TJ.out.touch (lo := z + 2) (hi := ub) (wj := wr.setCell ⟨sb, j, none⟩ (.int .i64 (swN U a : Int))) (Q := Sli 3 (z + 2) ub (.slice (some ⟨sb, 0, none⟩) m sc) m (icells (pKids U false qs (j + 1)))) ⟨rfl, rfl, rfl, by simp [World.setCell], fun i _ hi => Below.heap_setCell _ _ _ _ (show i ≠ sb by unfold Apt at hi; omega)⟩ (by omega) (TJ.out.hi 3 rfl) (Sli.loc _ _ _ _ _ _) hq (hs' := (ob, ob + 1, Cel ob #[ov] 34) :: (pb, pb + 1, Flt 3 pb (icells ((List.range k).map (plK U k)))) :: (g, g + 1, Flt 4 g (flcells ((List.range k).map U))) :: [(z + 1, z + 1 + 1, Cel (z + 1) #[.slice none 0 0] 34), (z, z + 1, Cel z #[.slice ad k cap] 34)]) (by
                          intro x hx
                          simp only [swD, List.mem_cons, List.not_mem_nil, or_false] at hx ⊢
                          rcases hx with rfl | rfl | rfl | rfl | rfl
                          · exact ⟨.inl rfl, .inr (by simp only; omega)⟩
                          · exact ⟨.inr (.inl rfl), .inr (by simp only; omega)⟩
                          · exact ⟨.inr (.inr (.inl rfl)), .inr (by simp only; omega)⟩
                          · exact ⟨.inr (.inr (.inr (.inr (.inl rfl)))), .inl (by simp only; omega)⟩
                          · exact ⟨.inr (.inr (.inr (.inr (.inr rfl)))), .inl (by simp only; omega)⟩)
                        refine this.drop (fun x hx => ?_)
                        simp only [swD, List.mem_cons, List.not_mem_nil, or_false] at hx ⊢
                        rcases hx with hx | hx | hx | hx | hx | hx
                        · exact .inr (.inl hx)
                        · exact .inr (.inr (.inl hx))
                        · exact .inr (.inr (.inr (.inl hx)))
                        · exact .inl hx
                        · exact .inr (.inr (.inr (.inr (.inl hx))))
                        · exact .inr (.inr (.inr (.inr (.inr hx))))
                      have KN : Hid (KOwn (wr.setCell ⟨sb, j, none⟩ (.int .i64 (swN U a))) (ob + 1) ov ss) := KJ.out.cellB (by omega) _ _
                      have a0 : (0 : Int) ≤ a := by omega
                      have al : (a : Int) < k := by omega
                      obtain ⟨sv2, hsv2⟩ : ∃ sv2, swN U a = sv2 := ⟨_, rfl⟩
                      rw [hsv2] at pa TN KN
                      clear hr hS TJ KJ hsv2 hUa
                      go_wp2
                      go_roundw
                      case rel => exact ⟨j + 1, by omega, by go_num, TN, KN⟩
                      case measure => simp [intOf]; omega
                  · have ejm : j = m := by omega
                    subst ejm
                    obtain ⟨oa, oc, hov⟩ := KJ.out.form
                    subst hov
                    obtain ⟨sn, hsn⟩ : ∃ sn, ss.length = sn := ⟨_, rfl⟩
                    rw [hsn] at TJ KJ
                    have r0 : wr.cell? ⟨z + 1, 0, none⟩ = some (.slice none 0 0) := TJ.out.at 4 0 rfl rfl
                    have f0 : wr.frozen? ⟨z + 1, 0, none⟩ = false := TJ.out.fr 4 0 rfl
                    have o0 : wr.cell? ⟨ob, 0, none⟩ = some (.slice oa sn oc) := TJ.out.at 0 0 rfl rfl
                    have FR : Hid ((wr.setCell ⟨z + 1, 0, none⟩ (.slice oa sn oc)).heap[z + 1]? = some (.cells #[.slice oa sn oc] 34 (0, 0))) := row_set (TJ.out.get 4 rfl) 0 _
                    have FIN : Hid (SweepOut w (sweepL L qs) (sweepR L qs) (.returned (.tuple #[.agg #[.slice oa sn oc], .slice sa j sc])) (wr.setCell ⟨z + 1, 0, none⟩ (.slice oa sn oc))) := by
                      rw [E.out.1, E.out.2]
                      have hz2 := HZ.out
                      have hz4 : (wr.setCell ⟨z + 1, 0, none⟩ (.slice oa sn oc)).heap.size = wr.heap.size := by simp [World.setCell]
                      have hob : ob + 1 ≤ wr.heap.size := TJ.out.hi 0 rfl
                      have far : ∀ q, z + 2 ≤ q → (wr.setCell ⟨z + 1, 0, none⟩ (.slice oa sn oc)).heap[q]? = wr.heap[q]? := fun q hq => Below.heap_setCell _ _ _ _ (show q ≠ z + 1 by omega)
                      have hS : Sli 3 (z + 2) ub (.slice sa j sc) j (icells (pKids U false qs j)) wr := TJ.out.get 3 rfl
                      have ep : pKids U false qs j = qs.map (swP U) := by
                        rw [pKids, if_neg (show ¬ (false = true) by decide), List.take_of_length_le (by rw [List.length_map, HQL.out]; exact Nat.le_refl _), List.drop_eq_nil_of_le (by rw [HQL.out]; exact Nat.le_refl _), List.append_nil]
                      rw [ep] at hS
                      refine ⟨_, _, ob + 1, wr.heap.size, z + 2, ub, rfl, ?_, ?_, by omega, by rw [hz4]; exact Nat.le_refl _, by omega, by rw [hz4]; omega, .inr (by omega), ?_⟩
                      · exact Kns.loc _ _ _ _ _ _ (fun q q1 q2 => far q (by omega)) ⟨ss, SW.out, KJ.out.kns⟩
                      · rw [List.length_map, HQL.out]
                        exact Sli.loc _ _ _ _ _ _ _ _ (fun q q1 q2 => far q q1) hS
                      · exact TJ.out.1.setCell (p := ⟨z + 1, 0, none⟩) (by show w.heap.size ≤ z + 1; omega) _
                    clear TJ KJ
                    go_wp2
                    exact bodyPost_ret (results_ar2 (p := 4) (q := 5) rfl _ _ (z + 1) _ rfl FR.out) rfl FIN.out
end Go.Proofs.YtcnaahajaaifjacGreat
