/-
  What there is, in plain words: no Go in them.
-/
import Derived.Test.YtiicghepilbgfaaGreatDoorSwMath
import Derived.Test.YtiicghepilbgfaaGreatDoorPk9
namespace Go.Proofs.YtiicghepilbgfaaGreatDoor
namespace Words

/-- Volumes (number and root), knots, the next chunk's number. -/
structure Sto where
  vols : List (Int × Int)
  kns : List Kn
  next : Int
def rootsV (l : List (Int × Int)) : List Int := l.map (·.2)
def stoNew : Sto := ⟨[], [], 1⟩
/-- Is the volume ahead of the i'th below? -/
def ascB (s : Sto) (i : Nat) (id : Int) : Bool := match i with
  | 0 => true
  | j + 1 => match s.vols[j]? with
    | some u => decide (u.1 < id)
    | none => true
/-- Are the numbers of the first k sectors below the next one? -/
def lessB (s : Sto) (r : Int) (k : Nat) : Bool := (List.range k).all (fun j => decide (getP s.kns r j < s.next))
def volB (s : Sto) (i : Nat) (v : Int × Int) : Bool := ((decide (1 ≤ v.1) && decide (v.1 ≤ 9)) && ascB s i v.1) && (rootB s.kns v.2 && lessB s v.2 16)
/-- The first k volumes are right. -/
def volsK (s : Sto) : Nat → Bool
  | 0 => true
  | k + 1 => volsK s k && (match s.vols[k]? with | some v => volB s k v | none => true)
def stoB (s : Sto) : Bool := ((decide (s.vols.length ≤ 3) && arB s.kns) && (decide (1 ≤ s.next) && decide (s.next ≤ 1000000000))) && (volsK s s.vols.length && decide ((sweepL s.kns (rootsV s.vols)).length = s.kns.length))
theorem volsK_succ {s : Sto} {k : Nat} {v : Int × Int} (h : s.vols[k]? = some v) : volsK s (k + 1) = (volsK s k && volB s k v) := by rw [volsK, h]
theorem volsK_le {s : Sto} {j k : Nat} (h : j ≤ k) (hk : volsK s k = true) : volsK s j = true := by
  induction k with
  | zero => have : j = 0 := by omega
            subst this; exact hk
  | succ k ih =>
    rw [volsK, Bool.and_eq_true] at hk
    by_cases e : j = k + 1
    · subst e; rw [volsK, Bool.and_eq_true]; exact hk
    · exact ih (by omega) hk.1
theorem volsK_at {s : Sto} (h : volsK s s.vols.length = true) {i : Nat} {v : Int × Int} (hi : s.vols[i]? = some v) : volB s i v = true := by
  have hl := (List.getElem?_eq_some_iff.1 hi).1
  have := volsK_le (show i + 1 ≤ s.vols.length by omega) h
  rw [volsK_succ hi, Bool.and_eq_true] at this
  exact this.2
theorem volsK_bad {s : Sto} {i : Nat} {v : Int × Int} (hi : s.vols[i]? = some v) (hv : volB s i v = false) : volsK s s.vols.length = false := by
  cases h : volsK s s.vols.length with
  | false => rfl
  | true => rw [volsK_at h hi] at hv; cases hv
theorem volsK_of {s : Sto} (h : ∀ i v, s.vols[i]? = some v → volB s i v = true) : ∀ k, k ≤ s.vols.length → volsK s k = true := by
  intro k
  induction k with
  | zero => intro _; rfl
  | succ k ih =>
    intro hk
    have e := List.getElem?_eq_getElem (show k < s.vols.length by omega)
    rw [volsK_succ e, ih (by omega), h k _ e]
    rfl
theorem swN_full {u : Nat → Bool} {n : Nat} (h : swN u n = n) : ∀ j, j < n → u j = true := by
  induction n with
  | zero => intro j hj; omega
  | succ n ih =>
    rw [swN_succ] at h
    have h1 := swN_le u n
    cases hu : u n with
    | false => rw [hu, if_neg (by decide)] at h; omega
    | true =>
      rw [hu, if_pos rfl] at h
      intro j hj
      by_cases e : j = n
      · subst e; exact hu
      · exact ih (by omega) j (by omega)

/-- A store that is right, but for knots that no volume has. -/
structure Sto.Near (s : Sto) : Prop where
  few : s.vols.length ≤ 3
  ar : arB s.kns = true
  nx : 1 ≤ s.next ∧ s.next ≤ 1000000000
  ids : ∀ v ∈ s.vols, 1 ≤ v.1 ∧ v.1 ≤ 9
  asc : s.vols.Pairwise (fun u v => u.1 < v.1)
  root : ∀ v ∈ s.vols, rootB s.kns v.2 = true
  less : ∀ v ∈ s.vols, ∀ k : Nat, k ≤ 15 → getP s.kns v.2 k < s.next
structure Sto.Right (s : Sto) : Prop extends Sto.Near s where
  used : ∀ j, j < s.kns.length → swU s.kns (rootsV s.vols) j = true
theorem Sto.Near.trs {s : Sto} (h : s.Near) : TrsOk s.kns (rootsV s.vols) := ⟨h.ar, fun r hr => by
  obtain ⟨v, hv, rfl⟩ := List.mem_map.1 hr
  exact h.root v hv⟩
theorem pair_of {l : List (Int × Int)} (h : ∀ i u v, l[i]? = some u → l[i + 1]? = some v → u.1 < v.1) : l.Pairwise (fun u v => u.1 < v.1) := by
  have step : ∀ d i u v, l[i]? = some u → l[i + d + 1]? = some v → u.1 < v.1 := by
    intro d
    induction d with
    | zero => intro i u v h1 h2; exact h i u v h1 h2
    | succ d ih =>
      intro i u v h1 h2
      have hl := (List.getElem?_eq_some_iff.1 h2).1
      have e := List.getElem?_eq_getElem (show i + d + 1 < l.length by omega)
      have a := ih i u _ h1 e
      have b := h (i + d + 1) _ v e (by rw [show i + d + 1 + 1 = i + (d + 1) + 1 by omega]; exact h2)
      omega
  rw [List.pairwise_iff_getElem]
  intro i j hi hj hij
  refine step (j - i - 1) i _ _ (List.getElem?_eq_getElem hi) ?_
  rw [show i + (j - i - 1) + 1 = j by omega]
  exact List.getElem?_eq_getElem hj
theorem lessB_iff {s : Sto} {r : Int} : lessB s r 16 = true ↔ ∀ k : Nat, k ≤ 15 → getP s.kns r k < s.next := by
  rw [lessB, List.all_eq_true]
  constructor
  · intro h k hk
    have := h k (List.mem_range.2 (by omega))
    simpa using this
  · intro h k hk
    have := h k (by have := List.mem_range.1 hk; omega)
    simpa using this
theorem stoB_iff (s : Sto) : stoB s = true ↔ s.Right := by
  unfold stoB
  simp only [Bool.and_eq_true, dcT]
  constructor
  · rintro ⟨⟨⟨h1, h2⟩, h3⟩, h4, h5⟩
    have vb : ∀ i v, s.vols[i]? = some v → ((1 ≤ v.1 ∧ v.1 ≤ 9) ∧ ascB s i v.1 = true) ∧ rootB s.kns v.2 = true ∧ lessB s v.2 16 = true := by
      intro i v hi
      have := volsK_at h4 hi
      rw [volB] at this
      simpa only [Bool.and_eq_true, dcT] using this
    have mb : ∀ v ∈ s.vols, (1 ≤ v.1 ∧ v.1 ≤ 9) ∧ rootB s.kns v.2 = true ∧ lessB s v.2 16 = true := by
      intro v hv
      obtain ⟨i, hi, e⟩ := List.mem_iff_getElem.1 hv
      have := vb i v (by rw [← e]; exact List.getElem?_eq_getElem hi)
      exact ⟨this.1.1, this.2⟩
    have nr : s.Near := by
      refine ⟨h1, h2, h3, fun v hv => (mb v hv).1, pair_of ?_, fun v hv => (mb v hv).2.1, fun v hv => lessB_iff.1 (mb v hv).2.2⟩
      intro i u v hu hv
      have := (vb (i + 1) v hv).1.2
      rw [ascB, hu] at this
      simpa using this
    refine ⟨nr, ?_⟩
    rw [sweepL, if_pos (swB_of nr.trs), swL_len] at h5
    exact swN_full h5
  · intro h
    refine ⟨⟨⟨h.few, h.ar⟩, h.nx⟩, volsK_of ?_ _ (Nat.le_refl _), ?_⟩
    · intro i v hi
      have hm := List.mem_of_getElem? hi
      rw [volB]
      simp only [Bool.and_eq_true, dcT]
      refine ⟨⟨h.ids v hm, ?_⟩, h.root v hm, lessB_iff.2 (h.less v hm)⟩
      cases i with
      | zero => rfl
      | succ j =>
        have hl := (List.getElem?_eq_some_iff.1 hi).1
        have e := List.getElem?_eq_getElem (show j < s.vols.length by omega)
        rw [ascB, e]
        have := (List.pairwise_iff_getElem.1 h.asc) j (j + 1) (by omega) hl (by omega)
        rw [(List.getElem?_eq_some_iff.1 hi).2] at this
        simpa using this
    · rw [sweepL, if_pos (swB_of h.trs), swL_len]
      exact swN_all h.used _ (Nat.le_refl _)

/-- Where a volume is, among the first k. -/
def atK (l : List (Int × Int)) (id : Int) : Nat → Option Nat
  | 0 => none
  | k + 1 => match atK l id k with
    | some j => some j
    | none => match l[k]? with
      | some v => if v.1 = id then some k else none
      | none => none
def atV (l : List (Int × Int)) (id : Int) : Option Nat := atK l id l.length
theorem atK_some {l : List (Int × Int)} {id : Int} {k j : Nat} (h : atK l id k = some j) : j < k ∧ ∃ v, l[j]? = some v ∧ v.1 = id := by
  induction k with
  | zero => cases h
  | succ k ih =>
    rw [atK] at h
    cases e : atK l id k with
    | some i =>
      rw [e] at h
      injection h with h
      subst h
      obtain ⟨h1, h2⟩ := ih e
      exact ⟨by omega, h2⟩
    | none =>
      rw [e] at h
      simp only at h
      split at h
      · rename_i v hv
        split at h
        · rename_i hid
          injection h with h
          subst h
          exact ⟨by omega, v, hv, hid⟩
        · cases h
      · cases h
theorem atK_none {l : List (Int × Int)} {id : Int} {k : Nat} (h : atK l id k = none) : ∀ j v, j < k → l[j]? = some v → v.1 ≠ id := by
  induction k with
  | zero => intro j v hj; omega
  | succ k ih =>
    rw [atK] at h
    cases e : atK l id k with
    | some i => rw [e] at h; cases h
    | none =>
      rw [e] at h
      simp only at h
      intro j v hj hv
      by_cases ej : j = k
      · subst ej
        rw [hv] at h
        simp only at h
        intro hid
        rw [if_pos hid] at h
        cases h
      · exact ih e j v (by omega) hv
theorem atK_no {l : List (Int × Int)} {id : Int} {k : Nat} {v : Int × Int} (h : atK l id k = none) (hv : l[k]? = some v) (hn : v.1 ≠ id) : atK l id (k + 1) = none := by
  rw [atK, h, hv]
  exact if_neg hn
theorem atK_yes {l : List (Int × Int)} {id : Int} {k : Nat} {v : Int × Int} (h : atK l id k = none) (hv : l[k]? = some v) (hn : v.1 = id) : ∀ m, k < m → atK l id m = some k := by
  intro m
  induction m with
  | zero => intro h; omega
  | succ m ih =>
    intro hm
    by_cases e : m = k
    · subst e
      rw [atK, h, hv]
      exact if_pos hn
    · rw [atK, ih (by omega)]
theorem atV_some {l : List (Int × Int)} {id : Int} {j : Nat} (h : atV l id = some j) : ∃ v, l[j]? = some v ∧ v.1 = id := (atK_some h).2
theorem atV_none {l : List (Int × Int)} {id : Int} (h : atV l id = none) : ∀ v ∈ l, v.1 ≠ id := by
  intro v hv
  obtain ⟨i, hi, e⟩ := List.mem_iff_getElem.1 hv
  exact atK_none h i v hi (by rw [← e]; exact List.getElem?_eq_getElem hi)
theorem atV_of {l : List (Int × Int)} {id : Int} {v : Int × Int} (hv : v ∈ l) (e : v.1 = id) : ∃ j, atV l id = some j := by
  cases h : atV l id with
  | some j => exact ⟨j, rfl⟩
  | none => exact absurd e (atV_none h v hv)
/-- The root of a volume. -/
def rootV (l : List (Int × Int)) (id : Int) : Option Int := (atV l id).bind (fun k => (l[k]?).map (·.2))

/-- Without knots that are not needed. -/
def sweptS (s : Sto) : Sto := ⟨List.zipWith (fun v r => (v.1, r)) s.vols (sweepR s.kns (rootsV s.vols)), sweepL s.kns (rootsV s.vols), s.next⟩
def insV (l : List (Int × Int)) (id r : Int) : List (Int × Int) := l.filter (fun v => decide (v.1 < id)) ++ (id, r) :: l.filter (fun v => decide (id < v.1))
def volE (s : Sto) (r : Rc) : Sto × Bool :=
  match (if 0 < r.arg then rootV s.vols r.arg else some (-1)) with
  | none => (s, false)
  | some q => if (atV s.vols r.vol).isSome || decide (s.vols.length = 3) then (s, false) else (⟨insV s.vols r.vol q, s.kns, s.next⟩, true)
def dropE (s : Sto) (k : Nat) : Sto := sweptS ⟨s.vols.take k ++ s.vols.drop (k + 1), s.kns, s.next⟩
def putE (s : Sto) (k : Nat) (v : Int × Int) (r : Rc) : Sto := sweptS ⟨s.vols.set k (v.1, putR s.kns v.2 r.arg r.chunk), putL s.kns v.2 r.arg r.chunk, if s.next ≤ r.chunk then r.chunk + 1 else s.next⟩
def enterS (s : Sto) (r : Rc) : Sto × Bool :=
  letI := r.decR
  if stoB s = true ∧ r.Right then
    if r.kind = 1 then (⟨[], [], if r.arg = 0 then 1 else r.arg⟩, true)
    else if r.kind = 2 then volE s r
    else match atV s.vols r.vol with
      | none => (s, false)
      | some k => if r.chunk = 1000000000 then (s, false) else if r.kind = 3 then (dropE s k, true) else (putE s k ((s.vols[k]?).getD (0, 0)) r, true)
  else (s, false)
def enterGo : Sto → List Rc → Option Sto
  | s, [] => some s
  | s, r :: l => if (enterS s r).2 = true then enterGo (enterS s r).1 l else none
def enterAllS (s : Sto) (l : List Rc) : Sto × Bool := match enterGo s l with
  | some n => (n, true)
  | none => (s, false)
def chunkS (s : Sto) (vol sector : Int) : Int := match rootV s.vols vol with
  | some r => getT s.kns r sector
  | none => 0
def refsS (s : Sto) (chunk : Int) : Nat := if 0 < chunk then (s.vols.map (fun v => (allT s.kns v.2).count chunk)).sum else 0
/-- A number above 0 put into an ascending list, once. -/
def insI (l : List Int) (x : Int) : List Int := l.filter (fun y => decide (y < x)) ++ (if 0 < x then [x] else []) ++ l.filter (fun y => decide (x < y))
def liveS (s : Sto) : List Int := s.vols.foldl (fun acc v => (allT s.kns v.2).foldl insI acc) []
def baseK (id : Int) (L : List Int) (k : Nat) : List Rc := (List.range k).filterMap (fun (j : Nat) => if 0 < (L[j]?).getD 0 then some ⟨4, id, (j : Int), (L[j]?).getD 0⟩ else none)
def baseV (l : List Kn) (v : Int × Int) : List Rc := ⟨2, v.1, 0, 0⟩ :: baseK v.1 (allT l v.2) 16
def baseS (s : Sto) : List Rc := ⟨1, 0, s.next, 0⟩ :: s.vols.flatMap (baseV s.kns)
/-- What a store tells: numbers of volumes, with what their sectors have. -/
def tellS (s : Sto) : List (Int × List Int) := s.vols.map (fun v => (v.1, allT s.kns v.2))
def sameS (a b : Sto) : Bool := decide (tellS a = tellS b) && decide (a.next = b.next)

/-- A store that is swept tells what it told, and is right. -/
theorem swept_vols {s : Sto} (h : s.Near) : (sweptS s).vols = s.vols.map (fun v => (v.1, swP (swU s.kns (rootsV s.vols)) v.2)) := by
  show List.zipWith _ _ _ = _
  rw [sweepR, if_pos (swB_of h.trs)]
  generalize swP (swU s.kns (rootsV s.vols)) = f
  unfold rootsV
  generalize s.vols = l
  induction l with
  | nil => rfl
  | cons v l ih => simp only [List.map_cons, List.zipWith_cons_cons, ih]
theorem swept_kns {s : Sto} (h : s.Near) : (sweptS s).kns = swL s.kns (rootsV s.vols) := by
  show sweepL _ _ = _
  rw [sweepL, if_pos (swB_of h.trs)]
theorem swept_roots {s : Sto} (h : s.Near) : rootsV (sweptS s).vols = (rootsV s.vols).map (swP (swU s.kns (rootsV s.vols))) := by
  rw [swept_vols h]
  unfold rootsV
  rw [List.map_map, List.map_map]
  rfl
theorem swept_right {s : Sto} (h : s.Near) : (sweptS s).Right := by
  have hm : ∀ v ∈ s.vols, v.2 ∈ rootsV s.vols := fun v hv => List.mem_map.2 ⟨v, hv, rfl⟩
  refine ⟨⟨?_, ?_, h.nx, ?_, ?_, ?_, ?_⟩, ?_⟩
  · rw [swept_vols h, List.length_map]; exact h.few
  · rw [swept_kns h]; exact sw_right h.trs
  · rw [swept_vols h]
    intro v hv
    obtain ⟨u, hu, rfl⟩ := List.mem_map.1 hv
    exact h.ids u hu
  · rw [swept_vols h, List.pairwise_map]; exact h.asc
  · rw [swept_vols h, swept_kns h]
    intro v hv
    obtain ⟨u, hu, rfl⟩ := List.mem_map.1 hv
    exact sw_root h.trs (hm u hu)
  · rw [swept_vols h, swept_kns h]
    intro v hv k hk
    obtain ⟨u, hu, rfl⟩ := List.mem_map.1 hv
    show getP _ _ k < s.next
    rw [sw_get h.trs (hm u hu) hk]
    exact h.less u hu k hk
  · rw [swept_roots h, swept_kns h]
    intro j hj
    exact sw_used h.trs hj
theorem swept_tell {s : Sto} (h : s.Near) : tellS (sweptS s) = tellS s := by
  unfold tellS
  rw [swept_vols h, swept_kns h, List.map_map]
  refine List.map_congr_left fun v hv => ?_
  show (v.1, _) = (v.1, _)
  rw [sw_all h.trs (List.mem_map.2 ⟨v, hv, rfl⟩)]
end Words
end Go.Proofs.YtiicghepilbgfaaGreatDoor
