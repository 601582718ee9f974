/-
  CeRc; RcRow; TreeC; StoM4; StoM5
-/
import Derived.Test.YtcjgjkejhkhknabGreatDoorPq0
import Derived.Test.YtcjgjkejhkhknabGreatDoorPq1
import Derived.Test.YtcjgjkejhkhknabGreatDoorPq2
import Derived.Test.YtcjgjkejhkhknabGreatDoorPq5
/-
  The cells of Recs in a row.
-/
namespace Go.Proofs.YtcjgjkejhkhknabGreatDoor
open Go.RowKit

/-- The cells of elements. -/
def rccell (t : Int × Int × Int × Int) : List Value := [.int .i64 t.1, .int .i64 t.2.1, .int .i64 t.2.2.1, .int .i64 t.2.2.2]
def rccells (l : List (Int × Int × Int × Int)) : List Value := l.flatMap rccell
theorem rccells_len (l : List (Int × Int × Int × Int)) : (rccells l).length = l.length * 4 := by
  induction l with
  | nil => rfl
  | cons t l ih => simp [rccells, rccell] at ih ⊢; omega
theorem rccells_app (a b : List (Int × Int × Int × Int)) : rccells (a ++ b) = rccells a ++ rccells b := by simp [rccells]
theorem rccells_cons (t : Int × Int × Int × Int) (l : List (Int × Int × Int × Int)) : rccells (t :: l) = rccell t ++ rccells l := by simp [rccells]
theorem rccells_at (l : List (Int × Int × Int × Int)) (k : Nat) (t : Int × Int × Int × Int) (h : l[k]? = some t) (j : Nat) (v : Value) (hj : (rccell t)[j]? = some v) : (rccells l)[k * 4 + j]? = some v := by
  have hlt : j < 4 := (List.getElem?_eq_some_iff.1 hj).1
  induction l generalizing k with
  | nil => simp at h
  | cons a l ih =>
    rw [rccells_cons]
    cases k with
    | zero =>
      simp at h
      subst h
      rw [List.getElem?_append_left (by show _ < 4; omega), Nat.zero_mul, Nat.zero_add]
      exact hj
    | succ k =>
      rw [List.getElem?_append_right (by show 4 ≤ _; omega), show (k + 1) * 4 + j - (rccell a).length = k * 4 + j by show _ - 4 = _; omega]
      exact ih k (by simpa using h)
theorem rccells_one (l : List (Int × Int × Int × Int)) : ∀ v ∈ rccells l, v.oneCell' = true := by
  intro v hv
  obtain ⟨t, -, ht⟩ := List.mem_flatMap.1 hv
  simp [rccell] at ht
  rcases ht with h | h | h | h <;> subst h <;> rfl
end Go.Proofs.YtcjgjkejhkhknabGreatDoor

/-
  Rows of records that can be read.
-/
namespace Go.Proofs.YtcjgjkejhkhknabGreatDoor
open Go.RowKit
set_option maxRecDepth 100000

/-- Elements that came in, each in 4 cells. -/
def RcRow (w : World) (a : Option Addr) (len : Nat) (ls : List (Int × Int × Int × Int)) : Prop :=
  ls.length = len ∧ len ≤ maxLen ∧ (∀ t ∈ ls, True) ∧ (0 < len → ∃ b off, a = some ⟨b, off, none⟩ ∧ b < w.heap.size ∧ ∀ i t, ls[i]? = some t → w.cell? ⟨b, off + i * 4, none⟩ = some (.int .i64 t.1) ∧ w.cell? ⟨b, off + i * 4 + 1, none⟩ = some (.int .i64 t.2.1) ∧ w.cell? ⟨b, off + i * 4 + 2, none⟩ = some (.int .i64 t.2.2.1) ∧ w.cell? ⟨b, off + i * 4 + 3, none⟩ = some (.int .i64 t.2.2.2))
theorem RcRow.below {w w' : World} {a : Option Addr} {len : Nat} {ls : List (Int × Int × Int × Int)} (h : RcRow w a len ls) (hb : Below w.heap.size w w') : RcRow w' a len ls := by
  obtain ⟨h1, h2, h3, h4⟩ := h
  refine ⟨h1, h2, h3, fun h0 => ?_⟩
  obtain ⟨b, off, e, hl, hc⟩ := h4 h0
  have hs := hb.size
  refine ⟨b, off, e, by omega, fun i t ht => ?_⟩
  obtain ⟨c0, c1, c2, c3⟩ := hc i t ht
  exact ⟨(hb.cell (show b < w.heap.size from hl)).trans c0, (hb.cell (show b < w.heap.size from hl)).trans c1, (hb.cell (show b < w.heap.size from hl)).trans c2, (hb.cell (show b < w.heap.size from hl)).trans c3⟩

theorem RcRow.at {w : World} {a : Option Addr} {len : Nat} {ls : List (Int × Int × Int × Int)} (h : RcRow w a len ls) {k : Nat} {t : Int × Int × Int × Int} (hk : ls[k]? = some t) :
    ∃ b off, a = some ⟨b, off, none⟩ ∧ b < w.heap.size ∧ w.cell? ⟨b, off + k * 4, none⟩ = some (.int .i64 t.1) ∧ w.cell? ⟨b, off + k * 4 + 1, none⟩ = some (.int .i64 t.2.1) ∧ w.cell? ⟨b, off + k * 4 + 2, none⟩ = some (.int .i64 t.2.2.1) ∧ w.cell? ⟨b, off + k * 4 + 3, none⟩ = some (.int .i64 t.2.2.2) := by
  obtain ⟨h1, -, -, h4⟩ := h
  have hl := (List.getElem?_eq_some_iff.1 hk).1
  obtain ⟨b, off, e, hb, hc⟩ := h4 (by omega)
  obtain ⟨c0, c1, c2, c3⟩ := hc k t hk
  exact ⟨b, off, e, hb, c0, c1, c2, c3⟩
end Go.Proofs.YtcjgjkejhkhknabGreatDoor

/-
  What ArenaOk, GetAt, AllAt, SharedBy, PutAt and SweepArena do.
-/
namespace Go.Proofs.YtcjgjkejhkhknabGreatDoor
open Go.RowKit
open Words

/-- What an ArenaOk does. -/
def ArC (f : Nat) : Prop := ∀ (ad : Option Addr) (len cap : Nat) (rs : List Kw) (w : World), len ≤ 1048578 → KnRd w ad len rs → Calls Tryz.prog f #[.agg #[.slice ad len cap]] w fun e w' => e = .returned (.bool (arB (rs.map ktell))) ∧ Below w.heap.size w w'
/-- What a GetAt does. -/
def GetC (f : Nat) : Prop := ∀ (ad : Option Addr) (len cap : Nat) (rs : List Kw) (r s : Int) (w : World), len ≤ 1048578 → KnRd w ad len rs → Calls Tryz.prog f #[.agg #[.slice ad len cap], .int .i64 r, .int .i64 s] w fun e w' => e = .returned (.int .i64 (getT (rs.map ktell) r s)) ∧ Below w.heap.size w w'
/-- What a SharedBy does. -/
def ShareC (f : Nat) : Prop := ∀ (ad : Option Addr) (len cap : Nat) (rs : List Kw) (r s : Int) (w : World), len ≤ 1048578 → KnRd w ad len rs → Calls Tryz.prog f #[.agg #[.slice ad len cap], .int .i64 r, .int .i64 s] w fun e w' => e = .returned (.int .i64 (shareT (rs.map ktell) r s)) ∧ Below w.heap.size w w'
/-- What an AllAt does. -/
def AllC (f : Nat) : Prop := ∀ (ad : Option Addr) (len cap : Nat) (rs : List Kw) (r : Int) (w : World), len ≤ 1048578 → KnRd w ad len rs → Calls Tryz.prog f #[.agg #[.slice ad len cap], .int .i64 r] w (IOut w (allT (rs.map ktell) r))
/-- What a PutAt does. -/
def PutC (f : Nat) : Prop := ∀ (ad : Option Addr) (len cap : Nat) (rs : List Kw) (r s n : Int) (w : World), len ≤ 1048578 → (∀ r ∈ rs, r.2.2.length ≤ 1048576) → KnRd w ad len rs → Calls Tryz.prog f #[.agg #[.slice ad len cap], .int .i64 r, .int .i64 s, .int .i64 n] w (PutOut w (putL (rs.map ktell) r s n) (putR (rs.map ktell) r s n))
theorem Kns.rd {W : World} {lo hi n c : Nat} {ad : Option Addr} {M : List Kn} (h : Kns lo hi (.slice ad n c) M W) (hn : M.length = n) (hh : hi ≤ W.heap.size) : ∃ rs, rs.map ktell = M ∧ KnRd W ad n rs := by
  obtain ⟨rs, e, hx⟩ := h
  exact ⟨rs, e, hx.rd (by rw [← hn, ← e, List.length_map]) hh⟩
end Go.Proofs.YtcjgjkejhkhknabGreatDoor

/-
  What refers to chunks, and clones, in plain words.
-/
namespace Go.Proofs.YtcjgjkejhkhknabGreatDoor
namespace Words

/-- A right store has few knots. -/
theorem right_small {s : Sto} (h : s.Right) : s.kns.length ≤ 15 := by
  have e : (List.range s.kns.length).countP (swU s.kns (rootsV s.vols)) = s.kns.length := swN_all h.used _ (Nat.le_refl _)
  have c := count_le ((rootsV s.vols).flatMap (fun r => r.toNat :: (List.range 4).map (fun k => (kidAt s.kns r k).toNat))) s.kns.length (swU s.kns (rootsV s.vols)) (by
    intro i hi
    rw [swU, List.any_eq_true] at hi
    obtain ⟨r, hr, hb⟩ := hi
    rw [List.mem_flatMap]
    refine ⟨r, hr, ?_⟩
    rcases (has_iff (has_pos hb)).1 hb with q | ⟨k, hk, q⟩
    · rw [List.mem_cons]; left; omega
    · rw [List.mem_cons, List.mem_map]; right; exact ⟨k, List.mem_range.2 hk, by omega⟩)
  have hl : ((rootsV s.vols).flatMap (fun r => r.toNat :: (List.range 4).map (fun k => (kidAt s.kns r k).toNat))).length = 5 * s.vols.length := by
    unfold rootsV
    generalize s.vols = l
    induction l with
    | nil => rfl
    | cons v l ih => rw [List.map_cons, List.flatMap_cons, List.length_append, ih]; simp; omega
  have := h.few
  omega
/-- Ascending, above 0. -/
def AscP (l : List Int) : Prop := l.Pairwise (fun a b => a < b) ∧ ∀ x ∈ l, 0 < x
theorem insI_mem {l : List Int} (h : AscP l) {x y : Int} : y ∈ insI l x ↔ y ∈ l ∨ (0 < x ∧ y = x) := by
  unfold insI
  rw [List.mem_append, List.mem_append, List.mem_filter, List.mem_filter]
  simp only [decide_eq_true_eq]
  constructor
  · rintro ((q | q) | q)
    · exact .inl q.1
    · split at q
      · rename_i hx; rw [List.mem_singleton] at q; exact .inr ⟨hx, q⟩
      · cases q
    · exact .inl q.1
  · rintro (q | ⟨q1, q2⟩)
    · have := h.2 y q
      by_cases e : y = x
      · subst e; rw [if_pos this]; exact .inl (.inr (List.mem_singleton.2 rfl))
      · by_cases hlt : y < x
        · exact .inl (.inl ⟨q, hlt⟩)
        · exact .inr ⟨q, by omega⟩
    · subst q2; rw [if_pos q1]; exact .inl (.inr (List.mem_singleton.2 rfl))
theorem insI_asc {l : List Int} (h : AscP l) (x : Int) : AscP (insI l x) := by
  refine ⟨?_, fun y hy => ?_⟩
  · unfold insI
    rw [List.append_assoc, List.pairwise_append, List.pairwise_append]
    refine ⟨h.1.filter _, ⟨?_, h.1.filter _, ?_⟩, ?_⟩
    · split
      · exact List.pairwise_singleton _ _
      · exact List.Pairwise.nil
    · intro a ha b hb
      have hb2 : x < b := by simpa using (List.mem_filter.1 hb).2
      split at ha
      · rw [List.mem_singleton] at ha; omega
      · cases ha
    · intro a ha b hb
      have ha2 : a < x := by simpa using (List.mem_filter.1 ha).2
      rcases List.mem_append.1 hb with hb | hb
      · split at hb
        · rw [List.mem_singleton] at hb; omega
        · cases hb
      · have hb2 : x < b := by simpa using (List.mem_filter.1 hb).2
        omega
  · rcases (insI_mem h).1 hy with q | ⟨q1, q2⟩
    · exact h.2 y q
    · omega
theorem foldI {l : List Int} (h : AscP l) (L : List Int) : AscP (L.foldl insI l) ∧ ∀ y, y ∈ L.foldl insI l ↔ y ∈ l ∨ (0 < y ∧ y ∈ L) := by
  induction L generalizing l with
  | nil => exact ⟨h, fun y => by simp⟩
  | cons x L ih =>
    obtain ⟨h1, h2⟩ := ih (insI_asc h x)
    refine ⟨h1, fun y => ?_⟩
    rw [List.foldl_cons, h2, insI_mem h, List.mem_cons]
    constructor
    · rintro ((q | ⟨q1, q2⟩) | ⟨q1, q2⟩)
      · exact .inl q
      · subst q2; exact .inr ⟨q1, .inl rfl⟩
      · exact .inr ⟨q1, .inr q2⟩
    · rintro (q | ⟨q1, q2 | q2⟩)
      · exact .inl (.inl q)
      · subst q2; exact .inl (.inr ⟨q1, rfl⟩)
      · exact .inr ⟨q1, q2⟩
/-- All that the sectors of a store have. -/
def allS (s : Sto) : List Int := s.vols.flatMap (fun v => allT s.kns v.2)
theorem live_fold (s : Sto) : liveS s = (allS s).foldl insI [] := by
  unfold liveS allS
  generalize ([] : List Int) = acc
  generalize s.vols = l
  induction l generalizing acc with
  | nil => rfl
  | cons v l ih => rw [List.foldl_cons, ih, List.flatMap_cons, List.foldl_append]
theorem live_asc (s : Sto) : AscP (liveS s) := by
  rw [live_fold]
  exact (foldI ⟨List.Pairwise.nil, fun _ h => by cases h⟩ _).1
theorem live_mem (s : Sto) (y : Int) : y ∈ liveS s ↔ 0 < y ∧ y ∈ allS s := by
  rw [live_fold, (foldI ⟨List.Pairwise.nil, fun _ h => by cases h⟩ _).2]
  simp
theorem refs_count (s : Sto) {c : Int} (h : 0 < c) : refsS s c = (allS s).count c := by
  rw [refsS, if_pos h, allS, List.count_flatMap]
  rfl
/-- References of all that live are as many as sectors that have something. -/
theorem sum_count {live : List Int} (hn : live.Pairwise (fun a b => a < b)) (hp : ∀ x ∈ live, 0 < x) (M : List Int) (hm : ∀ y ∈ M, 0 < y → y ∈ live) : (live.map (fun x => M.count x)).sum = M.countP (fun y => decide (0 < y)) := by
  have one : ∀ (l : List Int) (m : Int), l.Pairwise (fun a b => a < b) → (l.map (fun x => if m = x then 1 else 0)).sum = (if m ∈ l then 1 else 0) := by
    intro l m
    induction l with
    | nil => intro _; rfl
    | cons x l ih =>
      intro h
      rw [List.pairwise_cons] at h
      rw [List.map_cons, List.sum_cons, ih h.2]
      by_cases e : m = x
      · subst e
        have : ¬ m ∈ l := fun q => by have := h.1 m q; omega
        rw [if_pos rfl, if_neg this, if_pos List.mem_cons_self]
      · rw [if_neg e]
        by_cases q : m ∈ l
        · rw [if_pos q, if_pos (List.mem_cons_of_mem _ q)]
        · rw [if_neg q, if_neg (fun r => by rcases List.mem_cons.1 r with r | r; exact e r; exact q r)]
  have add : ∀ (l : List Int) (f g : Int → Nat), (l.map (fun x => f x + g x)).sum = (l.map f).sum + (l.map g).sum := by
    intro l f g
    induction l with
    | nil => rfl
    | cons x l ih => rw [List.map_cons, List.map_cons, List.map_cons, List.sum_cons, List.sum_cons, List.sum_cons, ih]; omega
  induction M with
  | nil =>
    have : ∀ l : List Int, (l.map (fun x => ([] : List Int).count x)).sum = 0 := by
      intro l
      induction l with
      | nil => rfl
      | cons x l ih => rw [List.map_cons, List.sum_cons, ih]; rfl
    exact this live
  | cons m M ih =>
    have i := ih (fun y hy => hm y (List.mem_cons_of_mem _ hy))
    have e : (fun x => (m :: M).count x) = (fun x => M.count x + if m = x then 1 else 0) := by
      funext x
      rw [List.count_cons]
      simp
    rw [e, add live (fun x => M.count x) (fun x => if m = x then 1 else 0), i, one live m hn, List.countP_cons]
    congr 1
    by_cases h0 : 0 < m
    · rw [if_pos (hm m List.mem_cons_self h0), if_pos (by simpa using h0)]
    · rw [if_neg (fun q => h0 (hp m q)), if_neg (by simpa using h0)]
theorem refs_sum (s : Sto) : ((liveS s).map (refsS s)).sum = (allS s).countP (fun y => decide (0 < y)) := by
  have ha := live_asc s
  rw [← sum_count ha.1 ha.2 (allS s) (fun y hy h0 => (live_mem s y).2 ⟨h0, hy⟩)]
  congr 1
  exact List.map_congr_left fun x hx => refs_count s (ha.2 x hx)
theorem refs_live {s : Sto} {c : Int} (h : c ∈ liveS s) : 1 ≤ refsS s c := by
  obtain ⟨h1, h2⟩ := (live_mem s c).1 h
  rw [refs_count s h1]
  exact List.count_pos_iff.2 h2
/-- What is not given yet is nowhere. -/
theorem refs_next {s : Sto} (h : s.Right) : refsS s s.next = 0 := by
  rw [refs_count s (by have := h.nx; omega), List.count_eq_zero]
  intro q
  obtain ⟨v, hv, hq⟩ := List.mem_flatMap.1 q
  obtain ⟨i, hi, e⟩ := List.mem_iff_getElem.1 hq
  rw [all_len] at hi
  have e3 := all_at s.kns v.2 hi
  rw [List.getElem?_eq_getElem (by rw [all_len]; exact hi), e] at e3
  injection e3 with e3
  rw [getT_ok ⟨h.ar, h.root v hv⟩ (by omega)] at e3
  have := h.less v hv i (by omega)
  omega
end Words
end Go.Proofs.YtcjgjkejhkhknabGreatDoor

/-
  What the program makes of stores, in plain words.
-/
namespace Go.Proofs.YtcjgjkejhkhknabGreatDoor
namespace Words

theorem swP_id {u : Nat → Bool} {n : Nat} (h : ∀ j, j < n → u j = true) {r : Int} (hr : r < n) : swP u r = r := by
  by_cases h0 : r < 0
  · exact swP_neg _ h0
  · obtain ⟨q, rfl⟩ : ∃ q : Nat, r = (q : Int) := ⟨r.toNat, by omega⟩
    rw [swP_pos, swN_all h q (by omega)]
theorem swK_id {u : Nat → Bool} {l : List Kn} (h : ∀ j, j < l.length → u j = true) (hx : ∀ x ∈ l, swX u x = x) : ∀ k, k ≤ l.length → swK u l k = l.take k := by
  intro k
  induction k with
  | zero => intro _; rfl
  | succ k ih =>
    intro hk
    have e := List.getElem?_eq_getElem (show k < l.length by omega)
    rw [swK_yes (h k (by omega)) e, ih (by omega), hx _ (List.getElem_mem _), List.take_succ_eq_append_getElem (by omega)]
theorem rootB_lt {l : List Kn} {r : Int} (h : rootB l r = true) : r < l.length := by
  unfold rootB at h
  simp only [Bool.or_eq_true, Bool.and_eq_true, decide_eq_true_eq] at h
  omega
/-- A right store has nothing to sweep. -/
theorem swept_same {s : Sto} (h : s.Right) : sweptS s = s := by
  have hk : (sweptS s).kns = s.kns := by
    rw [swept_kns h.toNear]
    unfold swL
    rw [swK_id h.used ?_ _ (Nat.le_refl _), List.take_length]
    intro x hx
    obtain ⟨i, hi, e⟩ := List.mem_iff_getElem.1 hx
    have hx' : s.kns[i]? = some x := by rw [← e]; exact List.getElem?_eq_getElem hi
    unfold swX
    split
    · rfl
    · rename_i hl
      obtain ⟨lf, kids⟩ := x
      simp only [Bool.not_eq_true] at hl
      subst hl
      congr 1
      conv => rhs; rw [← List.map_id kids]
      refine List.map_congr_left (fun n hn => ?_)
      obtain ⟨k, hk⟩ := List.getElem?_of_mem hn
      have := knB_kid (arB_at h.ar hx') hk
      rw [kidB, if_neg (by simp)] at this
      simp only [Bool.or_eq_true, Bool.and_eq_true, decide_eq_true_eq] at this
      exact swP_id h.used (by omega)
  have hv : (sweptS s).vols = s.vols := by
    rw [swept_vols h.toNear]
    conv => rhs; rw [← List.map_id s.vols]
    refine List.map_congr_left (fun v hv => ?_)
    show (v.1, _) = v
    rw [swP_id h.used (rootB_lt (h.root v hv))]
  obtain ⟨a, b, c⟩ := s
  have e : sweptS ⟨a, b, c⟩ = ⟨(sweptS ⟨a, b, c⟩).vols, (sweptS ⟨a, b, c⟩).kns, c⟩ := rfl
  rw [e, hk, hv]

/-- The number ahead of the k'th volume. -/
def lastI (l : List (Int × Int)) : Nat → Int
  | 0 => 0
  | k + 1 => ((l[k]?).map (·.1)).getD 0
/-- The first k numbers are 1 to 9 and ascend. -/
def idsK (l : List (Int × Int)) : Nat → Bool
  | 0 => true
  | k + 1 => idsK l k && (match l[k]? with | some v => decide (lastI l k + 1 ≤ v.1) && decide (v.1 ≤ 9) | none => true)
def volsB (l : List (Int × Int)) : Bool := idsK l l.length && decide (l.length ≤ 3)
theorem idsK_succ {l : List (Int × Int)} {k : Nat} {v : Int × Int} (h : l[k]? = some v) : idsK l (k + 1) = (idsK l k && (decide (lastI l k + 1 ≤ v.1) && decide (v.1 ≤ 9))) := by rw [idsK, h]
theorem lastI_succ {l : List (Int × Int)} {k : Nat} {v : Int × Int} (h : l[k]? = some v) : lastI l (k + 1) = v.1 := by rw [lastI, h]; rfl
theorem idsK_le {l : List (Int × Int)} {j k : Nat} (h : j ≤ k) (hk : idsK l k = true) : idsK l j = true := by
  induction k with
  | zero => have : j = 0 := by omega
            subst this; exact hk
  | succ k ih =>
    by_cases e : j = k + 1
    · subst e; exact hk
    · rw [idsK, Bool.and_eq_true] at hk
      exact ih (by omega) hk.1
theorem idsK_bad {l : List (Int × Int)} {k : Nat} {v : Int × Int} (hv : l[k]? = some v) (hn : ¬ (lastI l k + 1 ≤ v.1 ∧ v.1 ≤ 9)) : volsB l = false := by
  unfold volsB
  cases h : idsK l l.length with
  | false => rfl
  | true =>
    have hl := (List.getElem?_eq_some_iff.1 hv).1
    have := idsK_le (show k + 1 ≤ l.length by omega) h
    rw [idsK_succ hv] at this
    simp only [Bool.and_eq_true, decide_eq_true_eq] at this
    exact absurd this.2 hn
theorem idsK_at {l : List (Int × Int)} (h : idsK l l.length = true) {k : Nat} {v : Int × Int} (hv : l[k]? = some v) : lastI l k + 1 ≤ v.1 ∧ v.1 ≤ 9 := by
  have hl := (List.getElem?_eq_some_iff.1 hv).1
  have := idsK_le (show k + 1 ≤ l.length by omega) h
  rw [idsK_succ hv] at this
  simp only [Bool.and_eq_true, decide_eq_true_eq] at this
  exact this.2
theorem lastI_pos {l : List (Int × Int)} (h : idsK l l.length = true) : ∀ k, k ≤ l.length → 0 ≤ lastI l k := by
  intro k
  induction k with
  | zero => intro _; exact Int.le_refl _
  | succ k ih =>
    intro hk
    have e := List.getElem?_eq_getElem (show k < l.length by omega)
    have := idsK_at h e
    have := ih (by omega)
    rw [lastI_succ e]
    omega
theorem volsB_iff (l : List (Int × Int)) : volsB l = true ↔ l.length ≤ 3 ∧ (∀ v ∈ l, 1 ≤ v.1 ∧ v.1 ≤ 9) ∧ l.Pairwise (fun u v => u.1 < v.1) := by
  unfold volsB
  rw [Bool.and_eq_true, decide_eq_true_eq]
  constructor
  · rintro ⟨h1, h2⟩
    refine ⟨h2, fun v hv => ?_, pair_of (fun i u v hu hv => ?_)⟩
    · obtain ⟨i, hi, e⟩ := List.mem_iff_getElem.1 hv
      have hv' : l[i]? = some v := by rw [← e]; exact List.getElem?_eq_getElem hi
      have := idsK_at h1 hv'
      have := lastI_pos h1 i (by omega)
      omega
    · have := idsK_at h1 hv
      rw [lastI_succ hu] at this
      omega
  · rintro ⟨h1, h2, h3⟩
    refine ⟨?_, h1⟩
    have : ∀ k, k ≤ l.length → idsK l k = true := by
      intro k
      induction k with
      | zero => intro _; rfl
      | succ k ih =>
        intro hk
        have e := List.getElem?_eq_getElem (show k < l.length by omega)
        rw [idsK_succ e, ih (by omega)]
        have hm := h2 _ (List.mem_of_getElem? e)
        simp only [Bool.true_and, Bool.and_eq_true, decide_eq_true_eq]
        refine ⟨?_, hm.2⟩
        cases k with
        | zero => show (0 : Int) + 1 ≤ _; omega
        | succ j =>
          have e2 := List.getElem?_eq_getElem (show j < l.length by omega)
          rw [lastI_succ e2]
          have := List.pairwise_iff_getElem.1 h3 j (j + 1) (by omega) (by omega) (by omega)
          omega
    exact this _ (Nat.le_refl _)

/-- The numbers of a knot: a leaf's own, noughts else. -/
def numsOf (x : Kn) : List Int := if x.leaf = true then x.kids else [0, 0, 0, 0]
def numB (nx : Int) (x : Kn) : Bool := (numsOf x).all (fun n => decide (n < nx))
def treesB (s : Sto) : Bool := (swB s.kns (rootsV s.vols) && decide ((swL s.kns (rootsV s.vols)).length = s.kns.length)) && s.kns.all (numB s.next)
theorem num_inner {nx : Int} (h : 1 ≤ nx) {x : Kn} (hx : x.leaf = false) : numB nx x = true := by
  unfold numB numsOf
  rw [if_neg (by rw [hx]; decide)]
  have : (0 : Int) < nx := by omega
  simp [this]
/-- What a store is asked in another order. -/
theorem stoB_is (s : Sto) : stoB s = (volsB s.vols && ((decide (1 ≤ s.next) && decide (s.next ≤ 1000000000)) && treesB s)) := by
  rw [Bool.eq_iff_iff, stoB_iff]
  unfold treesB
  simp only [Bool.and_eq_true, decide_eq_true_eq, volsB_iff, List.all_eq_true]
  constructor
  · intro h
    refine ⟨⟨h.few, h.ids, h.asc⟩, h.nx, ⟨swB_of h.trs, ?_⟩, ?_⟩
    · rw [swL_len]; exact swN_all h.used _ (Nat.le_refl _)
    · intro x hx
      cases hl : x.leaf with
      | false => exact num_inner h.nx.1 hl
      | true =>
        obtain ⟨i, hi, e⟩ := List.mem_iff_getElem.1 hx
        have hx' : s.kns[i]? = some x := by rw [← e]; exact List.getElem?_eq_getElem hi
        obtain ⟨r, hr, hh⟩ := List.any_eq_true.1 (h.used i hi)
        have h0 := has_pos hh
        obtain ⟨v, hv, rfl⟩ := List.mem_map.1 hr
        have hroot := h.root v hv
        unfold numB numsOf
        rw [if_pos hl, List.all_eq_true]
        intro n hn
        rw [decide_eq_true_eq]
        obtain ⟨j, hj⟩ := List.getElem?_of_mem hn
        have h4 := knB_len (arB_at h.ar hx')
        have hj4 := (List.getElem?_eq_some_iff.1 hj).1
        rcases (has_iff h0).1 hh with e | ⟨k, hk, e⟩
        · obtain ⟨y, hy, hyl⟩ := rootB_pos hroot h0
          have : v.2.toNat = i := by omega
          rw [this, hx'] at hy
          cases hy
          rw [hl] at hyl; cases hyl
        · have := h.less v hv (4 * k + j) (by omega)
          unfold getP at this
          rw [if_neg (by omega), show (4 * k + j) / 4 = k by omega, show (4 * k + j) % 4 = j by omega, e, if_neg (by omega), kidAt_some (x := x) (by rw [Int.toNat_natCast]; exact hx') hj] at this
          exact this
  · rintro ⟨⟨h1, h2, h3⟩, hn, ⟨h4, h5⟩, h6⟩
    have ht := swB_ok h4
    have hroot : ∀ v ∈ s.vols, rootB s.kns v.2 = true := fun v hv => ht.2 _ (List.mem_map.2 ⟨v, hv, rfl⟩)
    refine ⟨⟨h1, ht.1, hn, h2, h3, hroot, ?_⟩, ?_⟩
    · intro v hv k hk
      unfold getP
      split
      · omega
      · rename_i q0
        obtain ⟨x, hx, hxl⟩ := rootB_pos (hroot v hv) (by omega)
        obtain ⟨n, hn1, hc⟩ := inner_kid ht.1 hx hxl (show k / 4 < 4 by omega)
        rw [kidAt_some hx hn1]
        rcases hc with rfl | ⟨c1, c2, y, hy, hyl, -⟩
        · rw [if_pos (by omega)]; omega
        · rw [if_neg (by omega)]
          obtain ⟨m, hm, -⟩ := leaf_kid ht.1 hy hyl (show k % 4 < 4 by omega)
          rw [kidAt_some hy hm]
          have := h6 y (List.mem_of_getElem? hy)
          unfold numB numsOf at this
          rw [if_pos hyl, List.all_eq_true] at this
          simpa using this m (List.mem_of_getElem? hm)
    · rw [swL_len] at h5
      exact swN_full h5

/-- Where a volume with a greater number is. -/
def overK (l : List (Int × Int)) (id : Int) : Nat := (l.takeWhile (fun v => decide (v.1 < id))).length
theorem over_split {l : List (Int × Int)} {id : Int} (h : l.Pairwise (fun u v => u.1 < v.1)) (hn : ∀ v ∈ l, v.1 ≠ id) {k : Nat} (hk : k ≤ l.length) (h1 : ∀ j v, j < k → l[j]? = some v → ¬ id < v.1) (h2 : ∀ v, l[k]? = some v → id < v.1) (r : Int) : l.take k ++ (id, r) :: l.drop k = insV l id r := by
  have a : l.filter (fun v => decide (v.1 < id)) = l.take k := by
    conv => lhs; rw [← List.take_append_drop k l]
    rw [List.filter_append]
    have e1 : (l.take k).filter (fun v => decide (v.1 < id)) = l.take k := by
      rw [List.filter_eq_self]
      intro v hv
      obtain ⟨j, hj⟩ := List.getElem?_of_mem hv
      have hjl := (List.getElem?_eq_some_iff.1 hj).1
      rw [List.length_take] at hjl
      rw [List.getElem?_take_of_lt (by omega)] at hj
      have q1 := h1 j v (by omega) hj
      have q2 := hn v (List.mem_of_getElem? hj)
      simp only [decide_eq_true_eq]
      omega
    have e2 : (l.drop k).filter (fun v => decide (v.1 < id)) = [] := by
      rw [List.filter_eq_nil_iff]
      intro v hv
      obtain ⟨j, hj⟩ := List.getElem?_of_mem hv
      rw [List.getElem?_drop] at hj
      have hjl := (List.getElem?_eq_some_iff.1 hj).1
      have e := List.getElem?_eq_getElem (show k < l.length by omega)
      have q := h2 _ e
      simp only [decide_eq_true_eq]
      by_cases ej : j = 0
      · subst ej
        rw [Nat.add_zero, e] at hj
        cases hj
        omega
      · have := List.pairwise_iff_getElem.1 h k (k + j) (by omega) hjl (by omega)
        rw [(List.getElem?_eq_some_iff.1 hj).2] at this
        omega
    rw [e1, e2, List.append_nil]
  have b : l.filter (fun v => decide (id < v.1)) = l.drop k := by
    conv => lhs; rw [← List.take_append_drop k l]
    rw [List.filter_append]
    have e1 : (l.take k).filter (fun v => decide (id < v.1)) = [] := by
      rw [List.filter_eq_nil_iff]
      intro v hv
      obtain ⟨j, hj⟩ := List.getElem?_of_mem hv
      have hjl := (List.getElem?_eq_some_iff.1 hj).1
      rw [List.length_take] at hjl
      rw [List.getElem?_take_of_lt (by omega)] at hj
      have q1 := h1 j v (by omega) hj
      simp only [decide_eq_true_eq]
      exact q1
    have e2 : (l.drop k).filter (fun v => decide (id < v.1)) = l.drop k := by
      rw [List.filter_eq_self]
      intro v hv
      obtain ⟨j, hj⟩ := List.getElem?_of_mem hv
      rw [List.getElem?_drop] at hj
      have hjl := (List.getElem?_eq_some_iff.1 hj).1
      have e := List.getElem?_eq_getElem (show k < l.length by omega)
      have q := h2 _ e
      simp only [decide_eq_true_eq]
      by_cases ej : j = 0
      · subst ej
        rw [Nat.add_zero, e] at hj
        cases hj
        exact q
      · have := List.pairwise_iff_getElem.1 h k (k + j) (by omega) hjl (by omega)
        rw [(List.getElem?_eq_some_iff.1 hj).2] at this
        omega
    rw [e1, e2, List.nil_append]
  rw [insV, a, b]
/-- A volume taken out. -/
theorem out_split {l : List (Int × Int)} {id : Int} (h : l.Pairwise (fun u v => u.1 < v.1)) {k : Nat} {v : Int × Int} (hv : l[k]? = some v) (e : v.1 = id) : l.filter (fun u => !decide (u.1 = id)) = l.take k ++ l.drop (k + 1) := by
  have hl := (List.getElem?_eq_some_iff.1 hv).1
  conv => lhs; rw [← List.take_append_drop k l]
  rw [List.filter_append, List.drop_eq_getElem_cons hl, (List.getElem?_eq_some_iff.1 hv).2, List.filter_cons, if_neg (by simp [e])]
  congr 1
  · rw [List.filter_eq_self]
    intro u hu
    obtain ⟨j, hj⟩ := List.getElem?_of_mem hu
    have hjl := (List.getElem?_eq_some_iff.1 hj).1
    rw [List.length_take] at hjl
    rw [List.getElem?_take_of_lt (by omega)] at hj
    simp only [Bool.not_eq_true', decide_eq_false_iff_not]
    intro e2
    have := asc_uniq h hj hv (by omega)
    omega
  · rw [List.filter_eq_self]
    intro u hu
    obtain ⟨j, hj⟩ := List.getElem?_of_mem hu
    rw [List.getElem?_drop] at hj
    simp only [Bool.not_eq_true', decide_eq_false_iff_not]
    intro e2
    have := asc_uniq h hj hv (by omega)
    omega

/-- All chunks, in order. -/
def chunksS (s : Sto) : List Int := (allS s).filter (fun y => decide (1 ≤ y))
theorem refs_chunks (s : Sto) (c : Int) : (chunksS s).count c = refsS s c := by
  by_cases h : 0 < c
  · rw [refs_count s h, chunksS, List.count_filter]
    simp only [decide_eq_true_eq]; omega
  · rw [refsS, if_neg h, List.count_eq_zero]
    intro q
    have := (List.mem_filter.1 q).2
    simp only [decide_eq_true_eq] at this
    omega
/-- Two rows that ascend and have the same are one. -/
theorem asc_extI : ∀ {a b : List Int}, a.Pairwise (fun x y => x < y) → b.Pairwise (fun x y => x < y) → (∀ y, y ∈ a ↔ y ∈ b) → a = b
  | [], [], _, _, _ => rfl
  | [], y :: b, _, _, h => absurd ((h y).2 List.mem_cons_self) (by simp)
  | x :: a, [], _, _, h => absurd ((h x).1 List.mem_cons_self) (by simp)
  | x :: a, y :: b, ha, hb, h => by
    rw [List.pairwise_cons] at ha hb
    have e : x = y := by
      rcases List.mem_cons.1 ((h x).1 List.mem_cons_self) with e | q
      · exact e
      · rcases List.mem_cons.1 ((h y).2 List.mem_cons_self) with e | q2
        · exact e.symm
        · have := hb.1 x q
          have := ha.1 y q2
          omega
    subst e
    rw [asc_extI ha.2 hb.2 (fun z => ?_)]
    constructor
    · intro hz
      rcases List.mem_cons.1 ((h z).1 (List.mem_cons_of_mem _ hz)) with e | q
      · subst e; have := ha.1 z hz; omega
      · exact q
    · intro hz
      rcases List.mem_cons.1 ((h z).2 (List.mem_cons_of_mem _ hz)) with e | q
      · subst e; have := hb.1 z hz; omega
      · exact q
theorem live_of {s : Sto} {l : List Int} (h1 : l.Pairwise (fun x y => x < y)) (h2 : ∀ y, y ∈ l ↔ y ∈ chunksS s) : l = liveS s := by
  refine asc_extI h1 (live_asc s).1 (fun y => ?_)
  rw [h2, live_mem, chunksS, List.mem_filter]
  simp only [decide_eq_true_eq]
  constructor
  · rintro ⟨a, b⟩; exact ⟨by omega, a⟩
  · rintro ⟨a, b⟩; exact ⟨b, by omega⟩
end Words
end Go.Proofs.YtcjgjkejhkhknabGreatDoor
