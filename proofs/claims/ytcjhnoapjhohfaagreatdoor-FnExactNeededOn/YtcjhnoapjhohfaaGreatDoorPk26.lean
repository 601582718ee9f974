/-
  ChM; ReadM; IAt; IClone; Rd
-/
import Derived.Test.YtcjhnoapjhohfaaGreatDoorPk24
import Derived.Test.YtcjhnoapjhohfaaGreatDoorPk25
import Derived.Test.YtcjhnoapjhohfaaGreatDoorPk17
import Derived.Test.YtcjhnoapjhohfaaGreatDoorPk18
import Derived.Test.YtcjhnoapjhohfaaGreatDoorShelf
/-
  Chunks on flash, in plain words.
-/
namespace Go.Proofs.YtcjhnoapjhohfaaGreatDoor
open Words Sums Pack

/-- A page of a chunk. -/
def isData (c : Int) (x : Fnd) : Bool := x.page.kind == 1 && x.page.tx == c
/-- The newest page of a chunk. -/
def newP (M : List Fnd) (c : Int) : Option Fnd := (M.filter (isData c)).getLast?
def textP (M : List Fnd) (c : Int) : Option (List UInt8) := (newP M c).bind fun x => unpackL x.page.text.data.toList
/-- The first of some chunks that has a text. -/
def sameP (M : List Fnd) (live : List Int) (t : List UInt8) : Int := (live.find? fun c => decide (textP M c = some t)).getD 0
def spotP (M : List Fnd) (c : Int) : Int × Int × Bool := match newP M c with
  | some x => (x.block, x.leaf, true)
  | none => (0, 0, false)
theorem newP_snoc (l : List Fnd) (x : Fnd) (c : Int) : newP (l ++ [x]) c = if isData c x then some x else newP l c := by
  unfold newP
  rw [List.filter_append]
  by_cases h : isData c x = true
  · rw [List.filter_cons_of_pos h, List.filter_nil, List.getLast?_concat, if_pos h]
  · rw [List.filter_cons_of_neg h, List.filter_nil, List.append_nil, if_neg h]
theorem newP_app (l m : List Fnd) (c : Int) : newP (l ++ m) c = (newP m c).or (newP l c) := by
  unfold newP
  rw [List.filter_append, List.getLast?_append]
theorem newP_mem {l : List Fnd} {c : Int} {x : Fnd} (h : newP l c = some x) : x ∈ l ∧ isData c x = true := by
  unfold newP at h
  have := List.mem_of_getLast? h
  rw [List.mem_filter] at this
  exact this
theorem newP_none {l : List Fnd} {c : Int} : newP l c = none ↔ ∀ x ∈ l, isData c x = false := by
  unfold newP
  rw [List.getLast?_eq_none_iff, List.filter_eq_nil_iff]
  simp
theorem newP_succ {M : List Fnd} {k : Nat} {x : Fnd} (h : M[k]? = some x) (c : Int) : newP (M.take (k + 1)) c = if isData c x then some x else newP (M.take k) c := by
  rw [List.take_add_one, h]
  exact newP_snoc _ _ _
theorem newP_cons (x : Fnd) (l : List Fnd) (c : Int) : newP (x :: l) c = (newP l c).or (if isData c x then some x else none) := by
  rw [show x :: l = [x] ++ l from rfl, newP_app]
  congr 1
  exact (newP_snoc [] x c).trans (by split <;> rfl)

/-- Whether a page is needed, by where it lies. -/
def needS (M : List Fnd) (live : List Int) (base : Int) (i : Nat) (x : Fnd) : Bool :=
  (x.page.kind == 2 && decide (base ≤ x.page.tx)) || (x.page.kind == 1 && live.contains x.page.tx && (newP (M.drop (i + 1)) x.page.tx).isNone)
def rowS (M : List Fnd) (live : List Int) (base : Int) : List Bool := M.mapIdx (needS M live base)
def onS (M : List Fnd) (row : List Bool) (b : Int) : Nat := ((M.zip row).filter fun p => p.2 && p.1.block == b).length
def neededP (M : List Fnd) (live : List Int) (base b : Int) : Nat := onS M (rowS M live base) b
theorem rowS_len (M : List Fnd) (live : List Int) (base : Int) : (rowS M live base).length = M.length := by simp [rowS]
theorem rowS_at {M : List Fnd} {i : Nat} {x : Fnd} (live : List Int) (base : Int) (h : M[i]? = some x) : (rowS M live base)[i]? = some (needS M live base i x) := by simp [rowS, h]
theorem rowS_nil (M : List Fnd) (base : Int) : rowS M [] base = M.map fun x => x.page.kind == 2 && decide (base ≤ x.page.tx) := by
  apply List.ext_getElem?
  intro i
  cases h : M[i]? with
  | none => simp [rowS, h]
  | some x => rw [rowS_at _ _ h, List.getElem?_map, h]; simp [needS]
theorem rowS_none {M : List Fnd} {c : Int} (L : List Int) (base : Int) (h : newP M c = none) : rowS M (L ++ [c]) base = rowS M L base := by
  apply List.ext_getElem?
  intro i
  cases hi : M[i]? with
  | none => simp [rowS, hi]
  | some x =>
    rw [rowS_at _ _ hi, rowS_at _ _ hi]
    congr 1
    have := newP_none.1 h x (List.mem_of_getElem? hi)
    unfold isData at this
    unfold needS
    congr 1
    by_cases hk : x.page.kind = 1
    · have ht : ¬ x.page.tx = c := by simpa [hk] using this
      simp [hk, ht]
    · have hk2 : (x.page.kind == 1) = false := by simpa using hk
      simp [hk2]
theorem rowS_set {M : List Fnd} {c : Int} {i : Nat} {x : Fnd} (L : List Int) (base : Int) (hi : M[i]? = some x) (hx : isData c x = true) (hn : newP (M.drop (i + 1)) c = none) : rowS M (L ++ [c]) base = (rowS M L base).set i true := by
  have hx' := hx
  unfold isData at hx'
  simp only [Bool.and_eq_true, beq_iff_eq] at hx'
  apply List.ext_getElem?
  intro j
  rw [List.getElem?_set]
  by_cases e : i = j
  · subst e
    rw [if_pos rfl, rowS_len, if_pos (List.getElem?_eq_some_iff.1 hi).1, rowS_at _ _ hi]
    congr 1
    unfold needS
    simp [hx'.1, hx'.2, hn]
  · rw [if_neg e]
    cases hj : M[j]? with
    | none => simp [rowS, hj]
    | some y =>
      rw [rowS_at _ _ hj, rowS_at _ _ hj]
      congr 1
      unfold needS
      congr 1
      by_cases hk : y.page.kind = 1
      · by_cases ht : y.page.tx = c
        · have hyd : isData c y = true := by unfold isData; simp [hk, ht]
          have hlt : j < i := by
            rcases Nat.lt_or_ge j i with q | q
            · exact q
            · exfalso
              have := newP_none.1 hn y (List.mem_of_getElem? (i := j - (i + 1)) (by rw [List.getElem?_drop, show i + 1 + (j - (i + 1)) = j by omega]; exact hj))
              rw [hyd] at this
              cases this
          have hs : (newP (M.drop (j + 1)) y.page.tx).isNone = false := by
            rw [ht]
            cases hq : newP (M.drop (j + 1)) c with
            | some _ => rfl
            | none =>
              exfalso
              have := newP_none.1 hq x (List.mem_of_getElem? (i := i - (j + 1)) (by rw [List.getElem?_drop, show j + 1 + (i - (j + 1)) = i by omega]; exact hi))
              rw [hx] at this
              cases this
          simp [hs]
        · simp [ht]
      · have hk2 : (y.page.kind == 1) = false := by simpa using hk
        simp [hk2]

/-- Whether a page is needed, by what it is. -/
def fndB (x y : Fnd) : Bool := x.block == y.block && x.leaf == y.leaf && x.page.kind == y.page.kind && x.page.seq == y.page.seq && x.page.tx == y.page.tx && x.page.part == y.page.part && x.page.count == y.page.count && decide (x.page.text.data.toList = y.page.text.data.toList)
theorem fndB_self (x : Fnd) : fndB x x = true := by simp [fndB]
def needI (M : List Fnd) (live : List Int) (base : Int) (x : Fnd) : Bool :=
  if x.page.kind = 2 then decide (base ≤ x.page.tx) else (match newP M x.page.tx with | some y => fndB y x | none => false) && live.contains x.page.tx
/-- No two lie at one place. -/
def Apl (M : List Fnd) : Prop := M.Pairwise fun x y => ¬ (x.block = y.block ∧ x.leaf = y.leaf)
theorem need_same {M : List Fnd} {i : Nat} {x : Fnd} (live : List Int) (base : Int) (ha : Apl M) (hk : x.page.kind = 1 ∨ x.page.kind = 2) (hi : M[i]? = some x) : needS M live base i x = needI M live base x := by
  unfold needS needI
  rcases hk with hk | hk
  · rw [if_neg (by omega)]
    simp only [hk, show ((1 : Int) == 2) = false from rfl, Bool.false_and, Bool.false_or, beq_self_eq_true, Bool.true_and]
    rw [Bool.and_comm]
    congr 1
    have hd : isData x.page.tx x = true := by unfold isData; simp [hk]
    have hsp : M = M.take (i + 1) ++ M.drop (i + 1) := (List.take_append_drop _ _).symm
    have hh := newP_app (M.take (i + 1)) (M.drop (i + 1)) x.page.tx
    rw [← hsp, newP_succ hi, if_pos hd] at hh
    cases hq : newP (M.drop (i + 1)) x.page.tx with
    | none =>
      rw [hq] at hh
      rw [hh]
      simp [fndB_self]
    | some y =>
      rw [hq] at hh
      rw [hh]
      simp only [Option.or, Option.isNone_some]
      have hm := (newP_mem hq).1
      have hne : ¬ (x.block = y.block ∧ x.leaf = y.leaf) := by
        unfold Apl at ha
        rw [hsp, List.pairwise_append] at ha
        refine ha.2.2 x ?_ y hm
        rw [List.take_add_one, hi]
        simp
      cases hb : fndB y x with
      | false => rfl
      | true =>
        unfold fndB at hb
        simp only [Bool.and_eq_true, beq_iff_eq] at hb
        exact absurd ⟨hb.1.1.1.1.1.1.1.symm, hb.1.1.1.1.1.1.2.symm⟩ hne
  · rw [if_pos hk]
    simp [hk]
theorem on_map (f : Fnd → Bool) (b : Int) : ∀ M : List Fnd, onS M (M.map f) b = (M.filter fun x => x.block == b && f x).length
  | [] => rfl
  | x :: M => by
    have ih := on_map f b M
    unfold onS at ih ⊢
    rw [List.map_cons, List.zip_cons_cons, List.filter_cons, List.filter_cons]
    simp only
    rw [Bool.and_comm]
    split <;> simp [ih]
theorem needed_same {M : List Fnd} (live : List Int) (base b : Int) (ha : Apl M) (hk : ∀ x ∈ M, x.page.kind = 1 ∨ x.page.kind = 2) : neededP M live base b = (M.filter fun x => x.block == b && needI M live base x).length := by
  unfold neededP
  have : rowS M live base = M.map (needI M live base) := by
    apply List.ext_getElem?
    intro i
    cases h : M[i]? with
    | none => simp [rowS, h]
    | some x => rw [rowS_at _ _ h, List.getElem?_map, h, need_same live base ha (hk x (List.mem_of_getElem? h)) h]; rfl
  rw [this, on_map]
theorem inSq_perm (x : Fnd) (l : List Fnd) : (inSq x l).Perm (x :: l) := by
  induction l with
  | nil => exact List.Perm.refl _
  | cons y l ih =>
    unfold inSq
    split
    · exact List.Perm.refl _
    · exact (List.Perm.cons y ih).trans (List.Perm.swap x y l)
theorem sortS_perm (l : List Fnd) : (sortS l).Perm l := by
  induction l using snocS_ind with
  | h0 => exact List.Perm.refl _
  | h1 l x ih =>
    rw [sortS_snoc]
    exact (inSq_perm x _).trans ((List.Perm.cons x ih).trans (List.perm_append_singleton x l).symm)
theorem sameP_nil (M : List Fnd) (t : List UInt8) : sameP M [] t = 0 := rfl
theorem sameP_cons (M : List Fnd) (c : Int) (l : List Int) (t : List UInt8) : sameP M (c :: l) t = if textP M c = some t then c else sameP M l t := by
  unfold sameP
  rw [List.find?_cons]
  by_cases h : textP M c = some t
  · simp [h]
  · simp [h]
theorem sameP_drop {M : List Fnd} {live : List Int} {k : Nat} {c : Int} (t : List UInt8) (h : live[k]? = some c) : sameP M (live.drop k) t = if textP M c = some t then c else sameP M (live.drop (k + 1)) t := by
  obtain ⟨hk, e⟩ := List.getElem?_eq_some_iff.1 h
  rw [List.drop_eq_getElem_cons hk, sameP_cons, e]
theorem onS_succ {M : List Fnd} {row : List Bool} {k : Nat} {x : Fnd} {r : Bool} (b : Int) (hx : M[k]? = some x) (hr : row[k]? = some r) : onS (M.take (k + 1)) (row.take (k + 1)) b = onS (M.take k) (row.take k) b + if r && x.block == b then 1 else 0 := by
  have h1 := (List.getElem?_eq_some_iff.1 hx).1
  have h2 := (List.getElem?_eq_some_iff.1 hr).1
  unfold onS
  rw [List.take_add_one, List.take_add_one, hx, hr]
  simp only [Option.toList_some]
  rw [List.zip_append (by rw [List.length_take, List.length_take]; omega), List.filter_append, List.length_append]
  congr 1
  cases r <;> cases hq : (x.block == b) <;> simp [hq]
theorem onS_le (M : List Fnd) (row : List Bool) (b : Int) : onS M row b ≤ M.length := by
  unfold onS
  refine Nat.le_trans (List.length_filter_le _ _) ?_
  rw [List.length_zip]
  omega
theorem scan_count (bs : List Bk) (m : Nat) (h : ∀ b ∈ bs, b.2.2.length ≤ m) : (scanF bs).length ≤ bs.length * m := by
  have hf : ∀ n, (founds bs n).length ≤ n * m := by
    intro n
    induction n with
    | zero => simp [founds]
    | succ n ih =>
      rw [founds, List.length_append, Nat.succ_mul]
      have h1 := foundsAt_len bs n ((bs[n]?).map (fun r => r.2.2.length) |>.getD 0)
      have h2 : ((bs[n]?).map (fun r => r.2.2.length) |>.getD 0) ≤ m := by
        cases e : bs[n]? with
        | none => simp
        | some r => simpa using h r (List.mem_of_getElem? e)
      omega
  unfold scanF
  rw [(sortS_perm _).length_eq]
  exact hf bs.length
theorem scan_apart (bs : List Bk) : Apl (scanF bs) := by
  unfold Apl scanF
  rw [(sortS_perm _).pairwise_iff (fun h hh => h ⟨hh.1.symm, hh.2.symm⟩)]
  rw [founds_pos, List.pairwise_filterMap]
  refine (posN_nodup bs bs.length).imp ?_
  intro p q hne x hx y hy hh
  unfold atQ at hx hy
  cases h1 : leafPg bs p.1 p.2 with
  | none => rw [h1] at hx; cases hx
  | some a =>
    cases h2 : leafPg bs q.1 q.2 with
    | none => rw [h2] at hy; cases hy
    | some c =>
      rw [h1] at hx
      rw [h2] at hy
      simp only [Option.map_some, Option.some.injEq] at hx hy
      subst hx hy
      simp only at hh
      exact hne (Prod.ext (by omega) (by omega))
theorem scan_right {bs : List Bk} {x : Fnd} (h : x ∈ scanF bs) : x.page.Right := by
  obtain ⟨b, l, -, -, -, -, hp⟩ := scan_mem h
  unfold leafPg at hp
  split at hp
  · exact (readPg_right hp).1
  · cases hp
theorem scan_kind {bs : List Bk} {x : Fnd} (h : x ∈ scanF bs) : x.page.kind = 1 ∨ x.page.kind = 2 := by
  rcases (scan_right h).1 with q | q
  · exact .inl q.1
  · exact .inr q.1
end Go.Proofs.YtcjhnoapjhohfaaGreatDoor

/-
  What is read of a flash.
-/
namespace Go.Proofs.YtcjhnoapjhohfaaGreatDoor

theorem read_out {bs : List Bk} {b leaf : Int} (h : ¬ (0 ≤ b ∧ b ≤ (bs.length : Int) - 1)) : readF bs b leaf = (⟨#[]⟩, false) := by
  unfold readF
  cases hb : bs[b.toNat]? with
  | none => rfl
  | some r =>
    have := (List.getElem?_eq_some_iff.1 hb).1
    simp only
    cases hl : r.2.2[leaf.toNat]? with
    | none => rfl
    | some t => exact if_neg (fun hh => h ⟨hh.1, by omega⟩)
theorem read_leaf_out {bs : List Bk} {k : Nat} {r : Bk} {leaf : Int} (hr : bs[k]? = some r) (h : ¬ (0 ≤ leaf ∧ leaf ≤ (r.2.2.length : Int) - 1)) : readF bs (k : Int) leaf = (⟨#[]⟩, false) := by
  unfold readF
  rw [Int.toNat_natCast, hr]
  simp only
  cases hl : r.2.2[leaf.toNat]? with
  | none => rfl
  | some t =>
    have := (List.getElem?_eq_some_iff.1 hl).1
    exact if_neg (fun hh => h ⟨hh.2.1, by omega⟩)
theorem read_in {bs : List Bk} {k j : Nat} {r : Bk} {t : Int × ByteArray} (hr : bs[k]? = some r) (ht : r.2.2[j]? = some t) : (t.1 = 1 → readF bs (k : Int) (j : Int) = (t.2, true)) ∧ (t.1 ≠ 1 → readF bs (k : Int) (j : Int) = (⟨#[]⟩, false)) := by
  unfold readF
  rw [Int.toNat_natCast, hr]
  simp only
  rw [Int.toNat_natCast, ht]
  exact ⟨fun h => if_pos ⟨by omega, by omega, h⟩, fun h => if_neg (fun hh => h hh.2.2)⟩
end Go.Proofs.YtcjhnoapjhohfaaGreatDoor

/-
  (impl.Flash).blockAt, (*impl.Block).leafAt, (impl.Flash).blockInUse.
-/
namespace Go.Proofs.YtcjhnoapjhohfaaGreatDoor
open Go.RowKit

set_option maxHeartbeats 400000 in
set_option maxRecDepth 100000 in
theorem iat_in (g n cap k : Nat) (w : World) (_hn : n ≤ 1048576) (hk : k < n) :
    Calls Tryz.prog 97 #[.agg #[.slice (some ⟨g, 0, none⟩) n cap], .int .i64 k] w fun e w' => e = .returned (.pointer (some ⟨g, k * 3, none⟩)) ∧ Below w.heap.size w w' := by
  have HB := hide ((Below.refl w.heap.size w).alloc (Nat.le_refl _) (.cells #[.slice (some ⟨g, 0, none⟩) n cap] 30))
  have h1 : (0 : Int) ≤ k := by omega
  have h2 : (k : Int) < n := by omega
  go_enter Tryz.func97, Tryz.ntmps97
  go_wp2
  go_ret
  exact ⟨rfl, HB.out⟩
set_option maxHeartbeats 400000 in
set_option maxRecDepth 100000 in
theorem iat_out (ad : Option Addr) (n cap : Nat) (b : Int) (w : World) (_hn : n ≤ 1048576) (hb : ¬ (0 ≤ b ∧ b ≤ (n : Int) - 1)) :
    Calls Tryz.prog 97 #[.agg #[.slice ad n cap], .int .i64 b] w fun e w' => e = .returned (.pointer none) ∧ Below w.heap.size w w' := by
  have HB := hide ((Below.refl w.heap.size w).alloc (Nat.le_refl _) (.cells #[.slice ad n cap] 30))
  by_cases h0 : b < 0
  · go_enter Tryz.func97, Tryz.ntmps97
    go_wp2
    go_ret
    exact ⟨rfl, HB.out⟩
  · have h1 : (n : Int) ≤ b := by omega
    clear hb
    go_enter Tryz.func97, Tryz.ntmps97
    go_wp2
    go_ret
    exact ⟨rfl, HB.out⟩
set_option maxHeartbeats 400000 in
set_option maxRecDepth 100000 in
theorem ilat_in (g o gl n cap k : Nat) (w : World) (_hn : n ≤ 1048576) (hk : k < n) (hc : w.cell? ⟨g, o + 2, none⟩ = some (.slice (some ⟨gl, 0, none⟩) n cap)) :
    Calls Tryz.prog 98 #[.pointer (some ⟨g, o, none⟩), .int .i64 k] w fun e w' => e = .returned (.pointer (some ⟨gl, k * 2, none⟩)) ∧ w' = w := by
  have h1 : (0 : Int) ≤ k := by omega
  have h2 : (k : Int) < n := by omega
  go_enter Tryz.func98, Tryz.ntmps98
  go_wp2
  go_ret
  exact ⟨rfl, rfl⟩
set_option maxHeartbeats 400000 in
set_option maxRecDepth 100000 in
theorem ilat_off (g o gl lo n cap k : Nat) (w : World) (_hn : n ≤ 1048576) (hk : k < n) (hc : w.cell? ⟨g, o + 2, none⟩ = some (.slice (some ⟨gl, lo, none⟩) n cap)) :
    Calls Tryz.prog 98 #[.pointer (some ⟨g, o, none⟩), .int .i64 k] w fun e w' => e = .returned (.pointer (some ⟨gl, lo + k * 2, none⟩)) ∧ w' = w := by
  have h1 : (0 : Int) ≤ k := by omega
  have h2 : (k : Int) < n := by omega
  go_enter Tryz.func98, Tryz.ntmps98
  go_wp2
  go_ret
  exact ⟨rfl, rfl⟩
set_option maxHeartbeats 400000 in
set_option maxRecDepth 100000 in
theorem ilat_out (g o n cap : Nat) (ad : Option Addr) (b : Int) (w : World) (_hn : n ≤ 1048576) (hb : ¬ (0 ≤ b ∧ b ≤ (n : Int) - 1)) (hc : w.cell? ⟨g, o + 2, none⟩ = some (.slice ad n cap)) :
    Calls Tryz.prog 98 #[.pointer (some ⟨g, o, none⟩), .int .i64 b] w fun e w' => e = .returned (.pointer none) ∧ w' = w := by
  by_cases h0 : b < 0
  · go_enter Tryz.func98, Tryz.ntmps98
    go_wp2
    go_ret
    exact ⟨rfl, rfl⟩
  · have h1 : (n : Int) ≤ b := by omega
    clear hb
    go_enter Tryz.func98, Tryz.ntmps98
    go_wp2
    go_ret
    exact ⟨rfl, rfl⟩
end Go.Proofs.YtcjhnoapjhohfaaGreatDoor

/-
  strings.Clone.
-/
namespace Go.Proofs.YtcjhnoapjhohfaaGreatDoor
open Go.RowKit

theorem fclone_any (s : ByteArray) (w : World) (hs : s.size ≤ 1048576) :
    Calls Tryz.prog 99 #[.string s] w fun e w' => e = .returned (.string s) ∧ Below w.heap.size w w' := by
  go_enter Tryz.func99, Tryz.ntmps99
  go_wp2_with fail
  refine (Tryz.stringslite_Clone s _ (by omega)).mono ?_
  rintro e w' ⟨rfl, hb⟩
  go_wp2
  go_ret
  exact ⟨rfl, hb⟩
end Go.Proofs.YtcjhnoapjhohfaaGreatDoor

/-
  Flashes that can be read, whoever owns them, and wherever their leaves begin.
-/
namespace Go.Proofs.YtcjhnoapjhohfaaGreatDoor
open Go.RowKit

def LeafRd (w : World) (u : Value) (ls : List (Int × ByteArray)) : Prop :=
  ∃ ld lc, u = .slice ld ls.length lc ∧ (ld = none → lc = 0) ∧ ∀ j t, ls[j]? = some t → ∃ gl o, ld = some ⟨gl, o, none⟩ ∧ w.cell? ⟨gl, o + j * 2, none⟩ = some (.int .i64 t.1) ∧ w.cell? ⟨gl, o + j * 2 + 1, none⟩ = some (.string t.2)
def FlashRd (w : World) (v : Value) (rs : List Rw) : Prop :=
  ∃ vd vcap, v = .slice vd rs.length vcap ∧ (vd = none → vcap = 0) ∧ ∀ k r, rs[k]? = some r → ∃ g, vd = some ⟨g, 0, none⟩ ∧ (w.cell? ⟨g, k * 3, none⟩ = some (.bool r.1) ∧ w.cell? ⟨g, k * 3 + 1, none⟩ = some (.int .i64 r.2.1) ∧ w.cell? ⟨g, k * 3 + 2, none⟩ = some r.2.2.1) ∧ LeafRd w r.2.2.1 r.2.2.2
theorem LeafRd.below {w w' : World} {u : Value} {ls : List (Int × ByteArray)} (h : LeafRd w u ls) (hb : Below w.heap.size w w') : LeafRd w' u ls := by
  obtain ⟨ld, lc, e, en, h⟩ := h
  refine ⟨ld, lc, e, en, fun j t ht => ?_⟩
  obtain ⟨gl, o, e2, c1, c2⟩ := h j t ht
  exact ⟨gl, o, e2, (hb.cell (World.block_lt_of_cell? w _ c1)).trans c1, (hb.cell (World.block_lt_of_cell? w _ c2)).trans c2⟩
theorem FlashRd.below {w w' : World} {v : Value} {rs : List Rw} (h : FlashRd w v rs) (hb : Below w.heap.size w w') : FlashRd w' v rs := by
  obtain ⟨vd, vcap, e, en, h⟩ := h
  refine ⟨vd, vcap, e, en, fun k r hr => ?_⟩
  obtain ⟨g, e2, ⟨c1, c2, c3⟩, hl⟩ := h k r hr
  exact ⟨g, e2, ⟨(hb.cell (World.block_lt_of_cell? w _ c1)).trans c1, (hb.cell (World.block_lt_of_cell? w _ c2)).trans c2, (hb.cell (World.block_lt_of_cell? w _ c3)).trans c3⟩, hl.below hb⟩
theorem FlashRd.at {w : World} {vd : Option Addr} {n vcap k : Nat} {rs : List Rw} {r : Rw} (h : FlashRd w (.slice vd n vcap) rs) (hr : rs[k]? = some r) : ∃ g, vd = some ⟨g, 0, none⟩ ∧ (w.cell? ⟨g, k * 3, none⟩ = some (.bool r.1) ∧ w.cell? ⟨g, k * 3 + 1, none⟩ = some (.int .i64 r.2.1) ∧ w.cell? ⟨g, k * 3 + 2, none⟩ = some r.2.2.1) ∧ LeafRd w r.2.2.1 r.2.2.2 := by
  obtain ⟨vd', vcap', e, -, h⟩ := h
  injection e with e1 e2 e3
  subst e1
  exact h k r hr
theorem own_nil {w : World} {B : Nat} {e : TypeId} {size n cap m : Nat} {a : Option Addr} {xs : List Value} (h : w.ownsRow B e size (.slice a m cap) n xs) : a = none → cap = 0 := by
  rintro rfl
  rcases h.2 with ⟨h, -⟩ | ⟨g, cap', cur, h, -⟩
  · injection h
  · cases h
theorem LeafIn.rd {w : World} {lo hi : Nat} {u : Value} {ls : List (Int × ByteArray)} (h : LeafIn w lo hi u ls) : LeafRd w u ls := by
  obtain ⟨ld, lc, rfl, -, -, l3⟩ := frow_form h.1
  refine ⟨ld, lc, rfl, own_nil h.1, fun j t ht => ?_⟩
  obtain ⟨gl, rfl, -, -⟩ := l3 (by have := (List.getElem?_eq_some_iff.1 ht).1; omega)
  obtain ⟨d1, d2⟩ := lown_cells h.1 ht
  exact ⟨gl, 0, rfl, by rw [Nat.zero_add]; exact d1, by rw [Nat.zero_add]; exact d2⟩
theorem FlashIn.rd {w : World} {lo hi : Nat} {v : Value} {rs : List Rw} (h : FlashIn w lo hi v rs) : FlashRd w v rs := by
  obtain ⟨vd, vcap, rfl, -, -, a3⟩ := frow_form h.1
  refine ⟨vd, vcap, rfl, own_nil h.1, fun k r hr => ?_⟩
  obtain ⟨g, rfl, -, -⟩ := a3 (by have := (List.getElem?_eq_some_iff.1 hr).1; omega)
  exact ⟨g, rfl, kown_cells (k := k) (t := cellOf r) h.1 (by rw [List.getElem?_map, hr]; rfl), (h.2.2.1 r (List.mem_of_getElem? hr)).rd⟩
theorem addr_offR (g o j : Nat) : (⟨g, o, none⟩ : Addr).add j = ⟨g, o + j, none⟩ := by
  simp only [Addr.add]
  split <;> simp_all
theorem LeafRd.cells {w : World} {gl o n lc : Nat} {ls : List (Int × ByteArray)} (h : LeafRd w (.slice (some ⟨gl, o, none⟩) n lc) ls) (j : Nat) (u : Value) (hj : (lcells ls)[j]? = some u) : w.cell? ⟨gl, o + j, none⟩ = some u := by
  obtain ⟨ld, lc', e, -, h⟩ := h
  injection e with e1 e2 e3
  subst e1
  have hlt := (List.getElem?_eq_some_iff.1 hj).1
  rw [lcells_len] at hlt
  obtain ⟨t, ht⟩ : ∃ t, ls[j / 2]? = some t := ⟨_, List.getElem?_eq_getElem (by omega)⟩
  obtain ⟨gl', o', e4, c1, c2⟩ := h _ t ht
  injection e4 with e4
  injection e4 with e5 e6
  subst e5 e6
  obtain ⟨k1, k2⟩ := lcells_at ls (j / 2) t ht
  rcases Nat.mod_two_eq_zero_or_one j with hm | hm
  · have e : j / 2 * 2 = j := by omega
    rw [e] at k1 c1
    rw [hj] at k1
    cases k1
    exact c1
  · have e : j / 2 * 2 + 1 = j := by omega
    rw [e, hj] at k2
    cases k2
    rw [Nat.add_assoc, e] at c2
    exact c2
/-- Where leaves begin. -/
theorem LeafRd.head {w : World} {ld : Option Addr} {n lc : Nat} {ls : List (Int × ByteArray)} (h : LeafRd w (.slice ld n lc) ls) (hn : 0 < ls.length) : ∃ gl o, ld = some ⟨gl, o, none⟩ := by
  obtain ⟨ld', lc', e, -, h⟩ := h
  injection e with e1 e2 e3
  subst e1
  obtain ⟨gl, o, e, -⟩ := h 0 _ (List.getElem?_eq_getElem hn)
  exact ⟨gl, o, e⟩
theorem LeafRd.two {w : World} {gl o n lc j : Nat} {ls : List (Int × ByteArray)} {t : Int × ByteArray} (h : LeafRd w (.slice (some ⟨gl, o, none⟩) n lc) ls) (ht : ls[j]? = some t) : w.cell? ⟨gl, o + j * 2, none⟩ = some (.int .i64 t.1) ∧ w.cell? ⟨gl, o + j * 2 + 1, none⟩ = some (.string t.2) := by
  obtain ⟨k1, k2⟩ := lcells_at ls j t ht
  exact ⟨h.cells _ _ k1, h.cells _ _ k2⟩
theorem LeafRd.none0 {w : World} {ld : Option Addr} {n lc : Nat} {ls : List (Int × ByteArray)} (h : LeafRd w (.slice ld n lc) ls) : ld = none → lc = 0 := by
  obtain ⟨ld', lc', e, h, -⟩ := h
  injection e with e1 e2 e3
  subst e1 e3
  exact h
theorem FlashRd.head {w : World} {vd : Option Addr} {n vcap : Nat} {rs : List Rw} (h : FlashRd w (.slice vd n vcap) rs) (hn : 0 < rs.length) : ∃ g, vd = some ⟨g, 0, none⟩ := by
  obtain ⟨g, e, -⟩ := h.at (List.getElem?_eq_getElem hn)
  exact ⟨g, e⟩
end Go.Proofs.YtcjhnoapjhohfaaGreatDoor
