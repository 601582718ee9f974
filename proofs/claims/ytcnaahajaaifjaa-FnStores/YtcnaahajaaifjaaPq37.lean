/-
  SwpM; ISwept
-/
import Derived.Test.YtcnaahajaaifjaaPq36
/-
  Forests that are swept: marks and places.
-/
namespace Go.Proofs.Ytcnaahajaaifjaa
open Go.RowKit
open Words

/-- What is kept of a list. -/
def swG {α : Type} (u : Nat → Bool) (l : List α) : Nat → List α
  | 0 => []
  | k + 1 => if u k = true then swG u l k ++ (l[k]?).toList else swG u l k
theorem swG_no {α : Type} {u : Nat → Bool} {l : List α} {k : Nat} (h : u k = false) : swG u l (k + 1) = swG u l k := by rw [swG, h, if_neg (by decide)]
theorem swG_yes {α : Type} {u : Nat → Bool} {l : List α} {k : Nat} {x : α} (h : u k = true) (hx : l[k]? = some x) : swG u l (k + 1) = swG u l k ++ [x] := by rw [swG, if_pos h, hx]; rfl
theorem swG_len {α : Type} {u : Nat → Bool} {l : List α} {k : Nat} (h : k ≤ l.length) : (swG u l k).length = swN u k := by
  induction k with
  | zero => rfl
  | succ k ih =>
    rw [swN_succ]
    cases hu : u k with
    | false => rw [swG_no hu, ih (by omega)]; rfl
    | true => rw [swG_yes hu (List.getElem?_eq_getElem (show k < l.length by omega)), List.length_append, ih (by omega)]; rfl
theorem swG_at {α : Type} {u : Nat → Bool} {l : List α} {i k : Nat} (hk : k ≤ l.length) (hi : i < k) (hu : u i = true) : (swG u l k)[swN u i]? = l[i]? := by
  induction k with
  | zero => omega
  | succ k ih =>
    have hkl : k < l.length := by omega
    by_cases e : i = k
    · subst e
      rw [swG_yes hu (List.getElem?_eq_getElem hkl), List.getElem?_append_right (by rw [swG_len (by omega)]; exact Nat.le_refl _), swG_len (by omega), Nat.sub_self, List.getElem?_eq_getElem hkl]
      rfl
    · have h := ih (by omega) (by omega)
      cases hu2 : u k with
      | false => rw [swG_no hu2]; exact h
      | true =>
        rw [swG_yes hu2 (List.getElem?_eq_getElem hkl), List.getElem?_append_left (by rw [swG_len (by omega)]; exact swN_lt u (by omega) hu)]
        exact h
/-- A linked knot with its mark and its place. -/
def lkU (bs : List Nat) (u : Nat → Bool) (p : Nat → Int) (i : Nat) (x : Kn) : Lk := { lkOf bs i x with place := p i, need := u i }
def lksU (bs : List Nat) (L : List Kn) (u : Nat → Bool) (p : Nat → Int) : List Lk := L.mapIdx (lkU bs u p)
theorem lksU_len (bs : List Nat) (L : List Kn) (u : Nat → Bool) (p : Nat → Int) : (lksU bs L u p).length = L.length := by simp [lksU]
theorem lksU_at (bs : List Nat) (L : List Kn) (u : Nat → Bool) (p : Nat → Int) (i : Nat) : (lksU bs L u p)[i]? = (L[i]?).map (lkU bs u p i) := by rw [lksU, List.getElem?_mapIdx]
theorem lksU_some {bs : List Nat} {L : List Kn} {u : Nat → Bool} {p : Nat → Int} {i : Nat} {x : Kn} (h : L[i]? = some x) : (lksU bs L u p)[i]? = some (lkU bs u p i x) := by rw [lksU_at, h]; rfl
theorem lksU_back {bs : List Nat} {L : List Kn} {u : Nat → Bool} {p : Nat → Int} {i : Nat} {y : Lk} (h : (lksU bs L u p)[i]? = some y) : ∃ x, L[i]? = some x ∧ y = lkU bs u p i x := by
  rw [lksU_at, Option.map_eq_some_iff] at h
  obtain ⟨x, h1, h2⟩ := h
  exact ⟨x, h1, h2.symm⟩
theorem lksU_congr {bs : List Nat} {L : List Kn} {u u' : Nat → Bool} {p p' : Nat → Int} (h : ∀ i, i < L.length → u i = u' i ∧ p i = p' i) : lksU bs L u p = lksU bs L u' p' := by
  apply List.ext_getElem?
  intro i
  rw [lksU_at, lksU_at]
  cases hx : L[i]? with
  | none => rfl
  | some x =>
    obtain ⟨h1, h2⟩ := h i (List.getElem?_eq_some_iff.1 hx).1
    rw [Option.map_some, Option.map_some, lkU, lkU, h1, h2]
theorem lksU_of (bs : List Nat) (L : List Kn) : lksOf bs L = lksU bs L (fun _ => false) (fun i => (i : Int)) := by
  apply List.ext_getElem?
  intro i
  rw [lksU_at, lksOf_at]
  cases hx : L[i]? with
  | none => rfl
  | some x =>
    rw [Option.map_some, Option.map_some]
    have h1 := lkOf_place bs i x
    have h2 := lkOf_need bs i x
    rw [lkU, ← h1, ← h2]
/-- What a sweep holds while it goes on. -/
def SwSt (lo : Nat) (w W : World) (fv : Value) (bs : List Nat) (L : List Kn) (tv : Value) (ts : List Nat) (rs : List Int) (u : Nat → Bool) (p : Nat → Int) : Prop :=
  W.ownsRow lo 111 1 fv bs.length (bcellsP bs) ∧ W.ownsRow lo 111 1 tv ts.length (bcellsP ts) ∧ FAt W bs (lksU bs L u p) ∧ (∀ i t : Nat, ts[i]? = some t → rs[i]? = some (-1) → LkAt W t lkNone ∧ t ∉ bs) ∧ Below lo w W
section
variable {lo : Nat} {w W : World} {fv tv : Value} {bs ts : List Nat} {L : List Kn} {rs : List Int} {u : Nat → Bool} {p : Nat → Int}
theorem SwSt.below {W' : World} (h : SwSt lo w W fv bs L tv ts rs u p) (hb : Below W.heap.size W W') (hlo : lo ≤ W.heap.size) : SwSt lo w W' fv bs L tv ts rs u p :=
  ⟨own_below h.1 hb, own_below h.2.1 hb, h.2.2.1.below hb, fun i t h1 h2 => ⟨(h.2.2.2.1 i t h1 h2).1.blw hb, (h.2.2.2.1 i t h1 h2).2⟩, h.2.2.2.2.trans (hb.mono hlo)⟩
theorem SwSt.congr {u' : Nat → Bool} {p' : Nat → Int} (h : SwSt lo w W fv bs L tv ts rs u p) (he : ∀ i, i < L.length → u i = u' i ∧ p i = p' i) : SwSt lo w W fv bs L tv ts rs u' p' := by
  refine ⟨h.1, h.2.1, ?_, h.2.2.2⟩
  rw [← lksU_congr he]
  exact h.2.2.1
theorem row_far {v : Value} {n b : Nat} {xs : List Value} {x : Lk} (h : W.ownsRow lo 111 1 v n xs) (hx : LkAt W b x) : v.ownBlock ≠ some b := by
  intro e
  obtain ⟨-, -, cs, q⟩ := own_kind h b e
  rw [hx.1] at q
  injection q with q
  injection q with _ q
  simp at q
theorem row_kept {v : Value} {n b j : Nat} {xs : List Value} {x : Lk} (h : W.ownsRow lo 111 1 v n xs) (hx : LkAt W b x) (c : Value) : (W.setCell ⟨b, j, none⟩ c).ownsRow lo 111 1 v n xs := h.kept (grown_cell W b j c) (.inr (row_far h hx))
/-- A cell of one of the knots is written. -/
theorem SwSt.set {i b j : Nat} {c : Value} {x : Kn} {u' : Nat → Bool} {p' : Nat → Int} (h : SwSt lo w W fv bs L tv ts rs u p) (hb : bs[i]? = some b) (hx : L[i]? = some x) (hlo : lo ≤ b) (hasc : bs.Pairwise (· < ·)) (hc : LkAt (W.setCell ⟨b, j, none⟩ c) b (lkU bs u' p' i x)) (he : ∀ k, k ≠ i → u k = u' k ∧ p k = p' k) : SwSt lo w (W.setCell ⟨b, j, none⟩ c) fv bs L tv ts rs u' p' := by
  have hat := h.2.2.1.2 i b _ hb (lksU_some hx)
  refine ⟨row_kept h.1 hat c, row_kept h.2.1 hat c, ⟨by rw [h.2.2.1.1, lksU_len, lksU_len], fun k d y h1 h2 => ?_⟩, fun k t h1 h2 => ⟨(h.2.2.2.1 k t h1 h2).1.other (fun e => (h.2.2.2.1 k t h1 h2).2 (by rw [e]; exact List.mem_of_getElem? hb)) _, (h.2.2.2.1 k t h1 h2).2⟩, h.2.2.2.2.setCell (p := ⟨b, j, none⟩) hlo _⟩
  obtain ⟨x', hx', rfl⟩ := lksU_back h2
  by_cases e : k = i
  · subst e
    rw [hb] at h1
    cases h1
    rw [hx] at hx'
    cases hx'
    exact hc
  · have hd : d ≠ b := fun q => e (bs_inj hasc h1 (by rw [q]; exact hb))
    obtain ⟨e1, e2⟩ := he k e
    have := (h.2.2.1.2 k d _ h1 (lksU_some hx')).other hd (k := j) c
    have e3 : lkU bs u' p' k x' = lkU bs u p k x' := by rw [lkU, lkU, e1, e2]
    rw [e3]
    exact this
theorem SwSt.mark {i b : Nat} {x : Kn} (h : SwSt lo w W fv bs L tv ts rs u p) (hb : bs[i]? = some b) (hx : L[i]? = some x) (hlo : lo ≤ b) (hasc : bs.Pairwise (· < ·)) : SwSt lo w (W.setCell ⟨b, 10, none⟩ (.bool true)) fv bs L tv ts rs (fun k => u k || decide (k = i)) p := by
  refine h.set hb hx hlo hasc ?_ (fun k hk => ⟨by rw [decide_eq_false hk, Bool.or_false], rfl⟩)
  have := (h.2.2.1.2 i b _ hb (lksU_some hx)).setNeed
  have e : lkU bs (fun k => u k || decide (k = i)) p i x = { lkU bs u p i x with need := true } := by simp [lkU]
  rw [e]
  exact this
theorem SwSt.place {i b : Nat} {x : Kn} (h : SwSt lo w W fv bs L tv ts rs u p) (hb : bs[i]? = some b) (hx : L[i]? = some x) (hlo : lo ≤ b) (hasc : bs.Pairwise (· < ·)) (q : Int) : SwSt lo w (W.setCell ⟨b, 0, none⟩ (.int .i64 q)) fv bs L tv ts rs u (fun k => if k = i then q else p k) := by
  refine h.set hb hx hlo hasc ?_ (fun k hk => ⟨rfl, by rw [if_neg hk]⟩)
  have := (h.2.2.1.2 i b _ hb (lksU_some hx)).setPlace q
  have e : lkU bs u (fun k => if k = i then q else p k) i x = { lkU bs u p i x with place := q } := by simp [lkU]
  rw [e]
  exact this
end
/-- Which of the knots are among these blocks? -/
def inK (bs K : List Nat) (i : Nat) : Bool := (bs[i]?).any (fun d => decide (d ∈ K))
theorem inK_snoc {bs K : List Nat} {i d : Nat} (hasc : bs.Pairwise (· < ·)) (hd : bs[i]? = some d) (j : Nat) : inK bs (K ++ [d]) j = (inK bs K j || decide (j = i)) := by
  unfold inK
  cases hj : bs[j]? with
  | none =>
    have : j ≠ i := fun e => by rw [e, hd] at hj; cases hj
    simp [this]
  | some c =>
    have : c = d ↔ j = i := by
      constructor
      · intro e; rw [e] at hj; exact bs_inj hasc hj hd
      · intro e; rw [e, hd] at hj; exact (Option.some.inj hj).symm
    simp [this]
theorem inK_has {bs K : List Nat} {L : List Kn} {r : Int} (hasc : bs.Pairwise (· < ·)) (hl : bs.length = L.length) (h : ∀ d, d ∈ K ↔ ∃ i, bs[i]? = some d ∧ hasB L r i = true) {j : Nat} (hj : j < L.length) : inK bs K j = hasB L r j := by
  have hb : bs[j]? = some bs[j] := List.getElem?_eq_getElem (by omega)
  rw [inK, hb, Option.any_some]
  cases hh : hasB L r j with
  | true => exact decide_eq_true ((h _).2 ⟨j, hb, hh⟩)
  | false =>
    refine decide_eq_false (fun q => ?_)
    obtain ⟨i, hi, hr⟩ := (h _).1 q
    rw [bs_inj hasc hi hb, hh] at hr
    cases hr
/-- Places of the first k. -/
def pK (u : Nat → Bool) (k i : Nat) : Int := if i < k ∧ u i = true then (swN u i : Int) else (i : Int)
theorem pK_zero (u : Nat → Bool) (i : Nat) : pK u 0 i = i := by rw [pK, if_neg (by omega)]
theorem pK_no {u : Nat → Bool} {k : Nat} (h : u k = false) (i : Nat) : pK u (k + 1) i = pK u k i := by
  unfold pK
  by_cases e : i = k
  · subst e; rw [h]; simp
  · have : (i < k + 1) ↔ (i < k) := by omega
    simp only [this]
theorem pK_yes {u : Nat → Bool} {k : Nat} (h : u k = true) (i : Nat) : pK u (k + 1) i = if i = k then (swN u k : Int) else pK u k i := by
  unfold pK
  by_cases e : i = k
  · subst e; rw [if_pos rfl, if_pos ⟨by omega, h⟩]
  · rw [if_neg e]
    have : (i < k + 1) ↔ (i < k) := by omega
    simp only [this]
theorem swU_take {L : List Kn} {rs : List Int} {k : Nat} {r : Int} (h : rs[k]? = some r) (i : Nat) : swU L (rs.take (k + 1)) i = (swU L (rs.take k) i || hasB L r i) := by
  rw [swU, swU, List.take_add_one, h, List.any_append]
  simp
theorem swU_zero {L : List Kn} {rs : List Int} (i : Nat) : swU L (rs.take 0) i = false := by simp [swU]
/-- The knots of a tree, in a forest with marks. -/
theorem iknotsU (t : Nat) (bs ts : List Nat) (L : List Kn) (rs : List Int) (lo : Nat) (fv tv : Value) (u : Nat → Bool) (k : Nat) (r : Int) (w W : World) (ha : arB L = true) (hr : rs[k]? = some r) (hR : rootB L r = true) (ht : ts[k]? = some t) (hb : ∀ m : Nat, r = (m : Int) → bs[m]? = some t) (h : SwSt lo w W fv bs L tv ts rs u (fun i => (i : Int))) :
    Calls Try.prog 122 #[ptr t] W fun e w' => ∃ v K, e = .returned v ∧ KwSt W w' v K ∧ K.length ≤ 5 ∧ (∀ d, d ∈ K ↔ ∃ i, bs[i]? = some d ∧ hasB L r i = true) := by
  have hbl : bs.length = L.length := by rw [h.2.2.1.1, lksU_len]
  obtain ⟨x, hat, htos, hp⟩ : ∃ x, LkAt W t x ∧ x.tos = (topOf L r).map (kidP bs) ∧ x.place = r := by
    rcases rootB_yes hR with rfl | ⟨m, y, rfl, hy, hl⟩
    · refine ⟨lkNone, (h.2.2.2.1 k t ht hr).1, ?_, rfl⟩
      rw [topOf, if_pos (by omega)]
      rfl
    · refine ⟨_, h.2.2.1.2 m t _ (hb m rfl) (lksU_some hy), ?_, rfl⟩
      rw [topOf, if_neg (by omega), Int.toNat_natCast, hy]
      show (lkOf bs m y).tos = _
      unfold lkOf
      rw [if_neg (by rw [hl]; decide)]
      rfl
  refine (iknots t x W hat (fun c hc => ?_)).mono ?_
  · rw [htos, List.mem_map] at hc
    obtain ⟨n, -, he⟩ := hc
    obtain ⟨-, h1⟩ := kidP_at he
    have hl := (List.getElem?_eq_some_iff.1 h1).1
    exact ⟨_, h.2.2.1.2 _ c _ h1 (List.getElem?_eq_getElem (by rw [lksU_len]; omega))⟩
  · rintro e w' ⟨v, rfl, hk⟩
    refine ⟨v, knP t x, rfl, hk, ?_, ?_⟩
    · have hfl : ∀ (l : List (Option Nat)) (a : List Nat), (l.foldl knStep a).length ≤ a.length + l.length := by
        intro l
        induction l with
        | nil => intro a; simp
        | cons o l ih =>
          intro a
          have h1 := ih (knStep a o)
          have h2 := knStep_len a o
          rw [List.foldl_cons, List.length_cons]
          omega
      have h1 := hfl x.tos (if x.place = -1 then [] else [t])
      rw [hat.2.2] at h1
      have h2 : (if x.place = -1 then [] else [t] : List Nat).length ≤ 1 := by split <;> simp
      show (x.tos.foldl knStep _).length ≤ 5
      omega
    · intro d
      rw [knP, knFold_mem, htos, hp]
      rcases rootB_yes hR with rfl | ⟨m, y, rfl, hy, hl⟩
      · rw [if_pos rfl, topOf, if_pos (by omega)]
        constructor
        · rintro (h | h)
          · cases h
          · simp [kidP] at h
        · rintro ⟨i, -, h⟩
          rw [has_none (by omega)] at h
          cases h
      · have hbm := hb m rfl
        rw [if_neg (by omega), topOf, if_neg (by omega), Int.toNat_natCast, hy]
        simp only [Option.map_some, Option.getD_some, List.mem_singleton, List.mem_map]
        constructor
        · rintro (rfl | ⟨n, hn, he⟩)
          · exact ⟨m, hbm, (has_iff (by omega)).2 (.inl rfl)⟩
          · obtain ⟨h0, h1⟩ := kidP_at he
            obtain ⟨k, hk⟩ := List.getElem?_of_mem hn
            have hk4 := (List.getElem?_eq_some_iff.1 hk).1
            rw [knB_len (arB_at ha hy)] at hk4
            exact ⟨n.toNat, h1, (has_iff (by omega)).2 (.inr ⟨k, hk4, by rw [kidAt_some (by rw [Int.toNat_natCast]; exact hy) hk]; omega⟩)⟩
        · rintro ⟨i, hi, hh⟩
          rcases (has_iff (by omega)).1 hh with e | ⟨k, hk, e⟩
          · left
            have : m = i := by omega
            subst this
            rw [hbm] at hi
            exact (Option.some.inj hi).symm
          · right
            obtain ⟨n, hn, hc⟩ := inner_kid ha (r := (m : Int)) (by rw [Int.toNat_natCast]; exact hy) hl hk
            rw [kidAt_some (by rw [Int.toNat_natCast]; exact hy) hn] at e
            refine ⟨n, List.mem_of_getElem? hn, ?_⟩
            rw [kidP, if_neg (by omega), e, Int.toNat_natCast]
            exact hi
end Go.Proofs.Ytcnaahajaaifjaa

/-
  impl's forests: what is left of one that is swept.
-/
namespace Go.Proofs.Ytcnaahajaaifjaa
open Go.RowKit
open Words

theorem SwSt.grown {lo : Nat} {w W y : World} {fv tv : Value} {bs ts : List Nat} {L : List Kn} {rs : List Int} {u : Nat → Bool} {p : Nat → Int} {row : Option Nat} (h : SwSt lo w W fv bs L tv ts rs u p) (hg : W.grownBy y row) (hlo : lo ≤ W.heap.size)
    (hr : ∀ g, row = some g → lo ≤ g ∧ (∃ cs, W.heap[g]? = some (.cells cs 111 (0, 0))) ∧ fv.ownBlock ≠ some g ∧ tv.ownBlock ≠ some g) : SwSt lo w y fv bs L tv ts rs u p := by
  have far : ∀ {v : Value} {n : Nat} {xs : List Value}, W.ownsRow lo 111 1 v n xs → (∀ g, row = some g → v.ownBlock ≠ some g) → y.ownsRow lo 111 1 v n xs := by
    intro v n xs ho hv
    refine ho.kept hg ?_
    cases hq : v.ownBlock with
    | none => exact .inl rfl
    | some g => exact .inr (fun e => hv g e.symm hq)
  refine ⟨far h.1 (fun g e => (hr g e).2.2.1), far h.2.1 (fun g e => (hr g e).2.2.2), h.2.2.1.grown hg (fun g e => (hr g e).2.1), fun i t h1 h2 => ⟨?_, (h.2.2.2.1 i t h1 h2).2⟩, h.2.2.2.2.grown hg hlo (fun g e => (hr g e).1)⟩
  have hx := (h.2.2.2.1 i t h1 h2).1
  refine ⟨(hg.block t hx.lt (fun e => ?_)).trans hx.1, hx.2⟩
  obtain ⟨cs, q⟩ := (hr t e.symm).2.1
  rw [hx.1] at q
  injection q with q
  injection q with _ q
  simp at q
/-- What sweptFor answers. -/
def SwOut (lo : Nat) (w : World) (fv : Value) (bs : List Nat) (L : List Kn) (tv : Value) (ts : List Nat) (rs : List Int) (e : Ending) (w' : World) : Prop :=
  ∃ v, e = .returned v ∧ w'.ownsRow w.heap.size 111 1 v (swN (swU L rs) L.length) (bcellsP (swG (swU L rs) bs L.length)) ∧ SwSt lo w w' fv bs L tv ts rs (swU L rs) (pK (swU L rs) L.length)

set_option maxHeartbeats 2000000 in
set_option maxRecDepth 100000 in
theorem iswept (lo : Nat) (fa : Option Addr) (n c : Nat) (bs : List Nat) (L : List Kn) (ta : Option Addr) (m tc : Nat) (ts : List Nat) (rs : List Int) (w : World) (hn : n ≤ 1048578) (hm : m ≤ 1048576) (hnl : L.length = n) (hbl : bs.length = n) (htl : ts.length = m) (hrl : rs.length = m) (hlo : lo ≤ w.heap.size) (ha : arB L = true) (hR : ∀ r ∈ rs, rootB L r = true) (hasc : bs.Pairwise (· < ·)) (hbl2 : ∀ b ∈ bs, lo ≤ b) (htb : ∀ (k t q : Nat), ts[k]? = some t → rs[k]? = some (q : Int) → bs[q]? = some t)
    (h : SwSt lo w w (.slice fa n c) bs L (.slice ta m tc) ts rs (fun _ => false) (fun i => (i : Int))) :
    Calls Try.prog 98 #[.slice fa n c, .slice ta m tc] w (SwOut lo w (.slice fa n c) bs L (.slice ta m tc) ts rs) := by
  have S0 : Hid (SwSt lo w w (.slice fa n c) bs L (.slice ta m tc) ts rs (swU L (rs.take 0)) (fun i => (i : Int))) := h.congr (fun i _ => ⟨by rw [swU_zero], rfl⟩)
  have HNL := hide hnl
  have HBL := hide hbl
  have HTL := hide htl
  have HRL := hide hrl
  have HA := hide ha
  have HR := hide hR
  have HASC := hide hasc
  have HLO := hide hbl2
  have HTB := hide htb
  have FB : Hid (∀ g, (Value.slice fa n c).ownBlock = some g → g < w.heap.size) := fun g e => (own_kind h.1 g e).2.1
  have TB : Hid (∀ g, (Value.slice ta m tc).ownBlock = some g → g < w.heap.size) := fun g e => (own_kind h.2.1 g e).2.1
  clear h hnl hbl htl hrl ha hR hasc hbl2 htb
  go_enter Try.func98, Try.ntmps98
  go_wp2
  go_loopw [14] (fun iv W => ∃ k : Nat, k ≤ m ∧ iv = .int .i64 k ∧ Hid (SwSt lo w W (.slice fa n c) bs L (.slice ta m tc) ts rs (swU L (rs.take k)) (fun i => (i : Int)))) (fun iv _ => m - (intOf iv).toNat)
  case atStart => exact ⟨0, Nat.zero_le _, rfl, S0⟩
  case round =>
    obtain ⟨k, hk, rfl, HS⟩ := hrel
    clear S0
    by_cases hlt : (k : Int) < m
    · obtain ⟨t, ht⟩ : ∃ t, ts[k]? = some t := ⟨_, List.getElem?_eq_getElem (by have := HTL.out; omega)⟩
      obtain ⟨r, hr⟩ : ∃ r, rs[k]? = some r := ⟨_, List.getElem?_eq_getElem (by have := HRL.out; omega)⟩
      obtain ⟨ta', tc', e, hpr⟩ := PRow.of HS.out.2.1
      injection e with e1 e2 e3
      obtain ⟨g, hg, -, hcell⟩ := hpr.at ht
      rw [← e1] at hg
      subst hg
      have k0 : (0 : Int) ≤ k := by omega
      unfold ptr at hcell
      have HRR := hide hr
      have C := hide (iknotsU t bs ts L rs lo (.slice fa n c) _ (swU L (rs.take k)) k r w wr HA.out hr (HR.out r (List.mem_of_getElem? hr)) ht (fun q hq => HTB.out k t q ht (by rw [hr, hq])) HS.out)
      have hlw : lo ≤ wr.heap.size := Nat.le_trans hlo HS.out.2.2.2.2.size
      unfold ptr at C
      clear hpr e1 e2 e3 ht hr
      go_wp2_with fail
      refine C.out.mono ?_
      rintro e w1 ⟨kv, K, rfl, hkw, hkl, hkm⟩
      obtain ⟨ka, kc, hkv, -⟩ := PRow.of hkw.1
      subst hkv
      have KM := hide hkm
      have S1 : Hid (SwSt lo w w1 (.slice fa n c) bs L (.slice (some ⟨g, 0, none⟩) m tc) ts rs (fun i => swU L (rs.take k) i || inK bs (K.take 0) i) (fun i => (i : Int)) ∧ w1.ownsRow lo 111 1 (.slice ka K.length kc) K.length (bcellsP K)) :=
        ⟨(HS.out.below hkw.2 hlw).congr (fun i _ => ⟨by simp [inK], rfl⟩), own_lower hkw.1 hlw⟩
      obtain ⟨kn, hkn⟩ : ∃ kn, K.length = kn := ⟨_, rfl⟩
      rw [hkn] at S1 hkl ⊢
      have HKN := hide hkn
      clear hkw hkm hkn C HS hcell hlw
      go_wp2
      go_loopw [21] (fun iv W => ∃ j : Nat, j ≤ kn ∧ iv = .int .i64 j ∧ Hid (SwSt lo w W (.slice fa n c) bs L (.slice (some ⟨g, 0, none⟩) m tc) ts rs (fun i => swU L (rs.take k) i || inK bs (K.take j) i) (fun i => (i : Int)) ∧ W.ownsRow lo 111 1 (.slice ka kn kc) kn (bcellsP K))) (fun iv _ => kn - (intOf iv).toNat)
      case atStart => exact ⟨0, Nat.zero_le _, rfl, S1⟩
      case round =>
        obtain ⟨j, hj, rfl, HI⟩ := hrel
        clear S1
        by_cases hlt2 : (j : Int) < kn
        · obtain ⟨d, hd⟩ : ∃ d, K[j]? = some d := ⟨_, List.getElem?_eq_getElem (by have := HKN.out; omega)⟩
          obtain ⟨ka', kc', e, hpr⟩ := PRow.of (bs := K) (by rw [HKN.out]; exact HI.out.2)
          injection e with e1 e2 e3
          obtain ⟨kg, hkg, -, hcell⟩ := hpr.at hd
          rw [← e1] at hkg
          subst hkg
          unfold ptr at hcell
          have j0 : (0 : Int) ≤ j := by omega
          obtain ⟨i, hi, -⟩ := (KM.out d).1 (List.mem_of_getElem? hd)
          have hil : i < L.length := by have := (List.getElem?_eq_some_iff.1 hi).1; have := HBL.out; have := HNL.out; omega
          have hxi : L[i]? = some L[i] := List.getElem?_eq_getElem hil
          have hat := HI.out.1.2.2.1.2 i d _ hi (lksU_some hxi)
          have oc := hat.need
          have of := hat.frozen 10
          obtain ⟨bv, hbv⟩ : ∃ bv, (lkU bs (fun i => swU L (rs.take k) i || inK bs (K.take j) i) (fun i => (i : Int)) i L[i]).need = bv := ⟨_, rfl⟩
          rw [hbv] at oc
          have NX : Hid (SwSt lo w (wr.setCell ⟨d, 10, none⟩ (.bool true)) (.slice fa n c) bs L (.slice (some ⟨g, 0, none⟩) m tc) ts rs (fun i => swU L (rs.take k) i || inK bs (K.take (j + 1)) i) (fun i => (i : Int)) ∧ (wr.setCell ⟨d, 10, none⟩ (.bool true)).ownsRow lo 111 1 (.slice (some ⟨kg, 0, none⟩) kn kc) kn (bcellsP K)) := by
            refine ⟨(HI.out.1.mark hi hxi (HLO.out d (List.mem_of_getElem? hi)) HASC.out).congr (fun q _ => ⟨?_, rfl⟩), row_kept HI.out.2 hat _⟩
            rw [List.take_add_one, hd]
            simp only [Option.toList_some]
            rw [inK_snoc HASC.out hi, Bool.or_assoc]
          clear hpr e1 e2 e3 hd hi hxi hat HI hbv
          go_wp2
          go_roundw
          case rel => exact ⟨j + 1, by omega, by go_num, NX⟩
          case measure => simp [intOf]; omega
        · have NX : Hid (SwSt lo w wr (.slice fa n c) bs L (.slice (some ⟨g, 0, none⟩) m tc) ts rs (swU L (rs.take (k + 1))) (fun i => (i : Int))) := by
            refine HI.out.1.congr (fun i hi => ⟨?_, rfl⟩)
            have ek : K.take j = K := List.take_of_length_le (by have := HKN.out; omega)
            rw [swU_take HRR.out, ek, inK_has HASC.out (by rw [HBL.out, HNL.out]) KM.out hi]
          clear HI
          go_wp2
          go_roundw
          case rel => exact ⟨k + 1, by omega, by go_num, NX⟩
          case measure => simp [intOf]; omega
    · have S2 : Hid (SwSt lo w wr (.slice fa n c) bs L (.slice ta m tc) ts rs (swU L rs) (pK (swU L rs) 0)) := by
        have := HS.out
        rw [List.take_of_length_le (by have := HRL.out; omega)] at this
        exact this.congr (fun i _ => ⟨rfl, (pK_zero _ i).symm⟩)
      have O2 : Hid (wr.ownsRow w.heap.size 111 1 (.slice none 0 0) (swN (swU L rs) 0) (bcellsP (swG (swU L rs) bs 0))) := ⟨rfl, .inl ⟨rfl, rfl⟩⟩
      obtain ⟨i0, hi0, hz0, hz1, hz2⟩ := info_parts infoPt
      have I0 := hide hi0
      have Y0 := hide hz0
      have Y1 := hide hz1
      have Y2 := hide hz2
      clear hi0 hz0 hz1 hz2 HS
      obtain ⟨U, hU⟩ : ∃ U, swU L rs = U := ⟨_, rfl⟩
      have HU := hide hU
      rw [hU] at S2 O2
      clear hU
      go_wp2
      go_loopw [9, 32] (fun lv iv W => ∃ k : Nat, k ≤ n ∧ iv = .int .i64 k ∧ Hid (SwSt lo w W (.slice fa n c) bs L (.slice ta m tc) ts rs U (pK U k)) ∧ Hid (W.ownsRow w.heap.size 111 1 lv (swN U k) (bcellsP (swG U bs k)))) (fun _ iv _ => n - (intOf iv).toNat)
      case atStart => exact ⟨0, Nat.zero_le _, rfl, S2, O2⟩
      case round =>
        obtain ⟨k, hk, rfl, HI, HO⟩ := hrel
        clear S2 O2
        obtain ⟨la, lc, hlv, -⟩ := (Sli.of HO.out).form
        subst hlv
        by_cases hlt2 : (k : Int) < n
        · have hkb : k < bs.length := by have := HBL.out; omega
          obtain ⟨d, hd⟩ : ∃ d, bs[k]? = some d := ⟨_, List.getElem?_eq_getElem hkb⟩
          obtain ⟨x, hx⟩ : ∃ x, L[k]? = some x := ⟨_, List.getElem?_eq_getElem (by have := HNL.out; omega)⟩
          obtain ⟨fa', fc', e, hpr⟩ := PRow.of HI.out.1
          injection e with e1 e2 e3
          obtain ⟨fg, hfg, -, hcell⟩ := hpr.at hd
          rw [← e1] at hfg
          subst hfg
          unfold ptr at hcell
          have k0 : (0 : Int) ≤ k := by omega
          have hat := HI.out.2.2.1.2 k d _ hd (lksU_some hx)
          have oc : wr.cell? ⟨d, 10, none⟩ = some (.bool (U k)) := hat.need
          have op := hat.place
          have of := hat.frozen 0
          have hsl : swN U k ≤ k := swN_le U k
          clear hpr e1 e2 e3
          cases hu : U k with
          | false =>
            rw [hu] at oc
            have NS : Hid (SwSt lo w wr (.slice (some ⟨fg, 0, none⟩) n c) bs L (.slice ta m tc) ts rs U (pK U (k + 1))) := HI.out.congr (fun i _ => ⟨rfl, (pK_no hu i).symm⟩)
            have NO : Hid (wr.ownsRow w.heap.size 111 1 (.slice la (swN U k) lc) (swN U (k + 1)) (bcellsP (swG U bs (k + 1)))) := by
              have := HO.out
              rw [swG_no hu, swN_succ, hu]
              exact this
            clear hd hx hat HI HO hu op of
            go_wp2
            go_roundw
            case rel => exact ⟨k + 1, by omega, by go_num, NS, NO⟩
            case measure => simp [intOf]; omega
          | true =>
            rw [hu] at oc
            have NS : Hid (SwSt lo w (wr.setCell ⟨d, 0, none⟩ (.int .i64 (swN U k))) (.slice (some ⟨fg, 0, none⟩) n c) bs L (.slice ta m tc) ts rs U (pK U (k + 1))) := (HI.out.place hd hx (HLO.out d (List.mem_of_getElem? hd)) HASC.out (swN U k)).congr (fun i _ => ⟨rfl, (pK_yes hu i).symm⟩)
            have NO : Hid ((wr.setCell ⟨d, 0, none⟩ (.int .i64 (swN U k))).ownsRow w.heap.size 111 1 (.slice la (swN U k) lc) (swN U k) (bcellsP (swG U bs k))) := row_kept HO.out hat _
            have NE : Hid (swG U bs (k + 1) = swG U bs k ++ [d] ∧ swN U (k + 1) = swN U k + 1) := ⟨swG_yes hu hd, by rw [swN_succ, hu]; rfl⟩
            obtain ⟨sn, hsn⟩ : ∃ sn, swN U k = sn := ⟨_, rfl⟩
            rw [hsn] at NS NO NE hsl ⊢
            clear hd hx hat HI HO hu hsn
            have HSZ : Hid ((wr.setCell ⟨d, 0, none⟩ (.int .i64 (sn : Int))).heap.size = wr.heap.size) := by show _ = _; simp [World.setCell]
            have BA : Hid (Below (wr.setCell ⟨d, 0, none⟩ (.int .i64 (sn : Int))).heap.size (wr.setCell ⟨d, 0, none⟩ (.int .i64 (sn : Int))) ((wr.setCell ⟨d, 0, none⟩ (.int .i64 (sn : Int))).alloc (.cells #[.pointer (some ⟨d, 0, none⟩)] 111))) := (Below.refl _ _).alloc (Nat.le_refl _) _
            have hw1 : w.heap.size ≤ (wr.setCell ⟨d, 0, none⟩ (.int .i64 (sn : Int))).heap.size := NS.out.2.2.2.2.size
            have OWN := hide (own_below NO.out BA.out)
            have NS2 := hide (NS.out.below BA.out (Nat.le_trans hlo hw1))
            have HZA : Hid (w.heap.size ≤ ((wr.setCell ⟨d, 0, none⟩ (.int .i64 (sn : Int))).alloc (.cells #[.pointer (some ⟨d, 0, none⟩)] 111)).heap.size) := Nat.le_trans hw1 BA.out.size
            have CN : Hid (∀ (j : Nat) (u : Value), [Value.pointer (some ⟨d, 0, none⟩)][j]? = some u → ((wr.setCell ⟨d, 0, none⟩ (.int .i64 (sn : Int))).alloc (.cells #[.pointer (some ⟨d, 0, none⟩)] 111)).cell? ((⟨wr.heap.size, 0, none⟩ : Addr).add j) = some u) := by
              have := one_cell (wr.setCell ⟨d, 0, none⟩ (.int .i64 (sn : Int))) (.pointer (some ⟨d, 0, none⟩)) 111
              rw [HSZ.out] at this
              exact this
            clear NS NO hw1
            go_wp2_with (at_builtin; refine wpList_append_own _ rfl _ _ 115 rfl w.heap.size 111 i0 (.pointer none) 1 8 Try.underlying115 I0.out Y0.out Y1.out Y2.out rfl (by decide) _ _ _ rfl OWN.out ⟨wr.heap.size, 0, none⟩ 1 1 [Value.pointer (some ⟨d, 0, none⟩)] rfl rfl CN.out (ptr_one _) ?c1 ?c2 ?c3 ?_)
            case c1 => unfold maxLen; omega
            case c2 => omega
            case c3 => exact HZA.out
            intro u' y ho hg _
            have hza := HZA.out
            have ho2 : y.ownsRow w.heap.size 111 1 u' (swN U (k + 1)) (bcellsP (swG U bs (k + 1))) := by rw [NE.out.1, NE.out.2, ← bcellsP_snoc]; exact ho
            have ST : Hid (SwSt lo w y (.slice (some ⟨fg, 0, none⟩) n c) bs L (.slice ta m tc) ts rs U (pK U (k + 1))) := NS2.out.grown hg (Nat.le_trans hlo hza) (fun q hq => by
              obtain ⟨q1, -, q2⟩ := own_kind OWN.out q hq
              exact ⟨Nat.le_trans hlo q1, q2, fun e => by have := FB.out q e; omega, fun e => by have := TB.out q e; omega⟩)
            have HO2 := hide ho2
            obtain ⟨ua, uc, hu, -⟩ := (Sli.of ho2).form
            subst hu
            have hsn2 := NE.out.2
            clear ho ho2 hg OWN NS2 BA hza
            rw [hsn2] at HO2 ⊢
            go_wp2
            go_roundw
            case rel => exact ⟨k + 1, by omega, by go_num, ST, by rw [hsn2]; exact HO2⟩
            case measure => simp [intOf]; omega
        · have ek : k = n := by omega
          subst ek
          have FIN : Hid (SwOut lo w (.slice fa k c) bs L (.slice ta m tc) ts rs (.returned (.slice la (swN U k) lc)) wr) := by
            refine ⟨_, rfl, ?_, ?_⟩
            · rw [HU.out, HNL.out]; exact HO.out
            · rw [HU.out, HNL.out]; exact HI.out
          clear HI HO
          go_wp2
          go_ret
          exact FIN.out
end Go.Proofs.Ytcnaahajaaifjaa
