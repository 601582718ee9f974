/-
  Chunks on flash, in plain words.
-/
import Derived.Test.YtiicghepilbgfaaGreatDoorScM2
import Derived.Test.YtiicghepilbgfaaGreatDoorPk6
namespace Go.Proofs.YtiicghepilbgfaaGreatDoor
open Words Sums Pack

/-- A page of a chunk. -/
def isData (c : Int) (x : Fnd) : Bool := x.page.kind == 1 && x.page.tx == c
/-- The newest page of a chunk. -/
def newP (M : List Fnd) (c : Int) : Option Fnd := (M.filter (isData c)).getLast?
def textP (M : List Fnd) (c : Int) : Option (List UInt8) := (newP M c).bind fun x => unpackL x.page.text.data.toList
/-- The first of some chunks that has a text. -/
def sameP (M : List Fnd) (live : List Int) (t : List UInt8) : Int := (live.find? fun c => decide (textP M c = some t)).getD 0
def spotP (M : List Fnd) (c : Int) : Int × Int × Bool := match newP M c with
  | some x => (x.block, x.leaf, true)
  | none => (0, 0, false)
theorem newP_snoc (l : List Fnd) (x : Fnd) (c : Int) : newP (l ++ [x]) c = if isData c x then some x else newP l c := by
  unfold newP
  rw [List.filter_append]
  by_cases h : isData c x = true
  · rw [List.filter_cons_of_pos h, List.filter_nil, List.getLast?_concat, if_pos h]
  · rw [List.filter_cons_of_neg h, List.filter_nil, List.append_nil, if_neg h]
theorem newP_app (l m : List Fnd) (c : Int) : newP (l ++ m) c = (newP m c).or (newP l c) := by
  unfold newP
  rw [List.filter_append, List.getLast?_append]
theorem newP_mem {l : List Fnd} {c : Int} {x : Fnd} (h : newP l c = some x) : x ∈ l ∧ isData c x = true := by
  unfold newP at h
  have := List.mem_of_getLast? h
  rw [List.mem_filter] at this
  exact this
theorem newP_none {l : List Fnd} {c : Int} : newP l c = none ↔ ∀ x ∈ l, isData c x = false := by
  unfold newP
  rw [List.getLast?_eq_none_iff, List.filter_eq_nil_iff]
  simp
theorem newP_succ {M : List Fnd} {k : Nat} {x : Fnd} (h : M[k]? = some x) (c : Int) : newP (M.take (k + 1)) c = if isData c x then some x else newP (M.take k) c := by
  rw [List.take_add_one, h]
  exact newP_snoc _ _ _
theorem newP_cons (x : Fnd) (l : List Fnd) (c : Int) : newP (x :: l) c = (newP l c).or (if isData c x then some x else none) := by
  rw [show x :: l = [x] ++ l from rfl, newP_app]
  congr 1
  exact (newP_snoc [] x c).trans (by split <;> rfl)

/-- Whether a page is needed, by where it lies. -/
def needS (M : List Fnd) (live : List Int) (base : Int) (i : Nat) (x : Fnd) : Bool :=
  (x.page.kind == 2 && decide (base ≤ x.page.tx)) || (x.page.kind == 1 && live.contains x.page.tx && (newP (M.drop (i + 1)) x.page.tx).isNone)
def rowS (M : List Fnd) (live : List Int) (base : Int) : List Bool := M.mapIdx (needS M live base)
def onS (M : List Fnd) (row : List Bool) (b : Int) : Nat := ((M.zip row).filter fun p => p.2 && p.1.block == b).length
def neededP (M : List Fnd) (live : List Int) (base b : Int) : Nat := onS M (rowS M live base) b
theorem rowS_len (M : List Fnd) (live : List Int) (base : Int) : (rowS M live base).length = M.length := by simp [rowS]
theorem rowS_at {M : List Fnd} {i : Nat} {x : Fnd} (live : List Int) (base : Int) (h : M[i]? = some x) : (rowS M live base)[i]? = some (needS M live base i x) := by simp [rowS, h]
theorem rowS_nil (M : List Fnd) (base : Int) : rowS M [] base = M.map fun x => x.page.kind == 2 && decide (base ≤ x.page.tx) := by
  apply List.ext_getElem?
  intro i
  cases h : M[i]? with
  | none => simp [rowS, h]
  | some x => rw [rowS_at _ _ h, List.getElem?_map, h]; simp [needS]
theorem rowS_none {M : List Fnd} {c : Int} (L : List Int) (base : Int) (h : newP M c = none) : rowS M (L ++ [c]) base = rowS M L base := by
  apply List.ext_getElem?
  intro i
  cases hi : M[i]? with
  | none => simp [rowS, hi]
  | some x =>
    rw [rowS_at _ _ hi, rowS_at _ _ hi]
    congr 1
    have := newP_none.1 h x (List.mem_of_getElem? hi)
    unfold isData at this
    unfold needS
    congr 1
    by_cases hk : x.page.kind = 1
    · have ht : ¬ x.page.tx = c := by simpa [hk] using this
      simp [hk, ht]
    · have hk2 : (x.page.kind == 1) = false := by simpa using hk
      simp [hk2]
theorem rowS_set {M : List Fnd} {c : Int} {i : Nat} {x : Fnd} (L : List Int) (base : Int) (hi : M[i]? = some x) (hx : isData c x = true) (hn : newP (M.drop (i + 1)) c = none) : rowS M (L ++ [c]) base = (rowS M L base).set i true := by
  have hx' := hx
  unfold isData at hx'
  simp only [Bool.and_eq_true, beq_iff_eq] at hx'
  apply List.ext_getElem?
  intro j
  rw [List.getElem?_set]
  by_cases e : i = j
  · subst e
    rw [if_pos rfl, rowS_len, if_pos (List.getElem?_eq_some_iff.1 hi).1, rowS_at _ _ hi]
    congr 1
    unfold needS
    simp [hx'.1, hx'.2, hn]
  · rw [if_neg e]
    cases hj : M[j]? with
    | none => simp [rowS, hj]
    | some y =>
      rw [rowS_at _ _ hj, rowS_at _ _ hj]
      congr 1
      unfold needS
      congr 1
      by_cases hk : y.page.kind = 1
      · by_cases ht : y.page.tx = c
        · have hyd : isData c y = true := by unfold isData; simp [hk, ht]
          have hlt : j < i := by
            rcases Nat.lt_or_ge j i with q | q
            · exact q
            · exfalso
              have := newP_none.1 hn y (List.mem_of_getElem? (i := j - (i + 1)) (by rw [List.getElem?_drop, show i + 1 + (j - (i + 1)) = j by omega]; exact hj))
              rw [hyd] at this
              cases this
          have hs : (newP (M.drop (j + 1)) y.page.tx).isNone = false := by
            rw [ht]
            cases hq : newP (M.drop (j + 1)) c with
            | some _ => rfl
            | none =>
              exfalso
              have := newP_none.1 hq x (List.mem_of_getElem? (i := i - (j + 1)) (by rw [List.getElem?_drop, show j + 1 + (i - (j + 1)) = i by omega]; exact hi))
              rw [hx] at this
              cases this
          simp [hs]
        · simp [ht]
      · have hk2 : (y.page.kind == 1) = false := by simpa using hk
        simp [hk2]

/-- Whether a page is needed, by what it is. -/
def fndB (x y : Fnd) : Bool := x.block == y.block && x.leaf == y.leaf && x.page.kind == y.page.kind && x.page.seq == y.page.seq && x.page.tx == y.page.tx && x.page.part == y.page.part && x.page.count == y.page.count && decide (x.page.text.data.toList = y.page.text.data.toList)
theorem fndB_self (x : Fnd) : fndB x x = true := by simp [fndB]
def needI (M : List Fnd) (live : List Int) (base : Int) (x : Fnd) : Bool :=
  if x.page.kind = 2 then decide (base ≤ x.page.tx) else (match newP M x.page.tx with | some y => fndB y x | none => false) && live.contains x.page.tx
/-- No two lie at one place. -/
def Apl (M : List Fnd) : Prop := M.Pairwise fun x y => ¬ (x.block = y.block ∧ x.leaf = y.leaf)
theorem need_same {M : List Fnd} {i : Nat} {x : Fnd} (live : List Int) (base : Int) (ha : Apl M) (hk : x.page.kind = 1 ∨ x.page.kind = 2) (hi : M[i]? = some x) : needS M live base i x = needI M live base x := by
  unfold needS needI
  rcases hk with hk | hk
  · rw [if_neg (by omega)]
    simp only [hk, show ((1 : Int) == 2) = false from rfl, Bool.false_and, Bool.false_or, beq_self_eq_true, Bool.true_and]
    rw [Bool.and_comm]
    congr 1
    have hd : isData x.page.tx x = true := by unfold isData; simp [hk]
    have hsp : M = M.take (i + 1) ++ M.drop (i + 1) := (List.take_append_drop _ _).symm
    have hh := newP_app (M.take (i + 1)) (M.drop (i + 1)) x.page.tx
    rw [← hsp, newP_succ hi, if_pos hd] at hh
    cases hq : newP (M.drop (i + 1)) x.page.tx with
    | none =>
      rw [hq] at hh
      rw [hh]
      simp [fndB_self]
    | some y =>
      rw [hq] at hh
      rw [hh]
      simp only [Option.or, Option.isNone_some]
      have hm := (newP_mem hq).1
      have hne : ¬ (x.block = y.block ∧ x.leaf = y.leaf) := by
        unfold Apl at ha
        rw [hsp, List.pairwise_append] at ha
        refine ha.2.2 x ?_ y hm
        rw [List.take_add_one, hi]
        simp
      cases hb : fndB y x with
      | false => rfl
      | true =>
        unfold fndB at hb
        simp only [Bool.and_eq_true, beq_iff_eq] at hb
        exact absurd ⟨hb.1.1.1.1.1.1.1.symm, hb.1.1.1.1.1.1.2.symm⟩ hne
  · rw [if_pos hk]
    simp [hk]
theorem on_map (f : Fnd → Bool) (b : Int) : ∀ M : List Fnd, onS M (M.map f) b = (M.filter fun x => x.block == b && f x).length
  | [] => rfl
  | x :: M => by
    have ih := on_map f b M
    unfold onS at ih ⊢
    rw [List.map_cons, List.zip_cons_cons, List.filter_cons, List.filter_cons]
    simp only
    rw [Bool.and_comm]
    split <;> simp [ih]
theorem needed_same {M : List Fnd} (live : List Int) (base b : Int) (ha : Apl M) (hk : ∀ x ∈ M, x.page.kind = 1 ∨ x.page.kind = 2) : neededP M live base b = (M.filter fun x => x.block == b && needI M live base x).length := by
  unfold neededP
  have : rowS M live base = M.map (needI M live base) := by
    apply List.ext_getElem?
    intro i
    cases h : M[i]? with
    | none => simp [rowS, h]
    | some x => rw [rowS_at _ _ h, List.getElem?_map, h, need_same live base ha (hk x (List.mem_of_getElem? h)) h]; rfl
  rw [this, on_map]
theorem inSq_perm (x : Fnd) (l : List Fnd) : (inSq x l).Perm (x :: l) := by
  induction l with
  | nil => exact List.Perm.refl _
  | cons y l ih =>
    unfold inSq
    split
    · exact List.Perm.refl _
    · exact (List.Perm.cons y ih).trans (List.Perm.swap x y l)
theorem sortS_perm (l : List Fnd) : (sortS l).Perm l := by
  induction l using snocS_ind with
  | h0 => exact List.Perm.refl _
  | h1 l x ih =>
    rw [sortS_snoc]
    exact (inSq_perm x _).trans ((List.Perm.cons x ih).trans (List.perm_append_singleton x l).symm)
theorem sameP_nil (M : List Fnd) (t : List UInt8) : sameP M [] t = 0 := rfl
theorem sameP_cons (M : List Fnd) (c : Int) (l : List Int) (t : List UInt8) : sameP M (c :: l) t = if textP M c = some t then c else sameP M l t := by
  unfold sameP
  rw [List.find?_cons]
  by_cases h : textP M c = some t
  · simp [h]
  · simp [h]
theorem sameP_drop {M : List Fnd} {live : List Int} {k : Nat} {c : Int} (t : List UInt8) (h : live[k]? = some c) : sameP M (live.drop k) t = if textP M c = some t then c else sameP M (live.drop (k + 1)) t := by
  obtain ⟨hk, e⟩ := List.getElem?_eq_some_iff.1 h
  rw [List.drop_eq_getElem_cons hk, sameP_cons, e]
theorem onS_succ {M : List Fnd} {row : List Bool} {k : Nat} {x : Fnd} {r : Bool} (b : Int) (hx : M[k]? = some x) (hr : row[k]? = some r) : onS (M.take (k + 1)) (row.take (k + 1)) b = onS (M.take k) (row.take k) b + if r && x.block == b then 1 else 0 := by
  have h1 := (List.getElem?_eq_some_iff.1 hx).1
  have h2 := (List.getElem?_eq_some_iff.1 hr).1
  unfold onS
  rw [List.take_add_one, List.take_add_one, hx, hr]
  simp only [Option.toList_some]
  rw [List.zip_append (by rw [List.length_take, List.length_take]; omega), List.filter_append, List.length_append]
  congr 1
  cases r <;> cases hq : (x.block == b) <;> simp [hq]
theorem onS_le (M : List Fnd) (row : List Bool) (b : Int) : onS M row b ≤ M.length := by
  unfold onS
  refine Nat.le_trans (List.length_filter_le _ _) ?_
  rw [List.length_zip]
  omega
theorem scan_count (bs : List Bk) (m : Nat) (h : ∀ b ∈ bs, b.2.2.length ≤ m) : (scanF bs).length ≤ bs.length * m := by
  have hf : ∀ n, (founds bs n).length ≤ n * m := by
    intro n
    induction n with
    | zero => simp [founds]
    | succ n ih =>
      rw [founds, List.length_append, Nat.succ_mul]
      have h1 := foundsAt_len bs n ((bs[n]?).map (fun r => r.2.2.length) |>.getD 0)
      have h2 : ((bs[n]?).map (fun r => r.2.2.length) |>.getD 0) ≤ m := by
        cases e : bs[n]? with
        | none => simp
        | some r => simpa using h r (List.mem_of_getElem? e)
      omega
  unfold scanF
  rw [(sortS_perm _).length_eq]
  exact hf bs.length
theorem scan_apart (bs : List Bk) : Apl (scanF bs) := by
  unfold Apl scanF
  rw [(sortS_perm _).pairwise_iff (fun h hh => h ⟨hh.1.symm, hh.2.symm⟩)]
  rw [founds_pos, List.pairwise_filterMap]
  refine (posN_nodup bs bs.length).imp ?_
  intro p q hne x hx y hy hh
  unfold atQ at hx hy
  cases h1 : leafPg bs p.1 p.2 with
  | none => rw [h1] at hx; cases hx
  | some a =>
    cases h2 : leafPg bs q.1 q.2 with
    | none => rw [h2] at hy; cases hy
    | some c =>
      rw [h1] at hx
      rw [h2] at hy
      simp only [Option.map_some, Option.some.injEq] at hx hy
      subst hx hy
      simp only at hh
      exact hne (Prod.ext (by omega) (by omega))
theorem scan_right {bs : List Bk} {x : Fnd} (h : x ∈ scanF bs) : x.page.Right := by
  obtain ⟨b, l, -, -, -, -, hp⟩ := scan_mem h
  unfold leafPg at hp
  split at hp
  · exact (readPg_right hp).1
  · cases hp
theorem scan_kind {bs : List Bk} {x : Fnd} (h : x ∈ scanF bs) : x.page.kind = 1 ∨ x.page.kind = 2 := by
  rcases (scan_right h).1 with q | q
  · exact .inl q.1
  · exact .inr q.1
end Go.Proofs.YtiicghepilbgfaaGreatDoor
