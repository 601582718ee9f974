/-
  Plain facts: how much is gathered, and of how many records.
-/
import Derived.Test.YtogfdhfmamabiaaTxMath2
namespace Go.Proofs.Ytogfdhfmamabiaa.Words

/-- The texts of one transaction's pages. -/
def szTxP (tx : Int) (p : Pg) : Nat := if p.tx = tx then p.text.size else 0
def sumLP (l : List Pg) : Nat := (l.map (fun p => p.text.size)).sum
theorem catP_size (l : List Pg) : (catP l).size = sumLP l := by
  show (l.flatMap (fun p => p.text.data.toList)).toArray.size = _
  rw [List.size_toArray, List.length_flatMap]
  rfl
theorem moreP_sum {ps : List Pg} {tx c : Int} : ∀ (n k : Nat) (l : List Pg), moreP ps tx c n k = some l → sumBP (szTxP tx) ps k + sumLP l ≤ sumBP (szTxP tx) ps ((k + n : Nat) : Int) := by
  intro n
  induction n with
  | zero => intro k l h; simp only [moreP, Option.some.injEq] at h; subst h; simp [sumLP]
  | succ n ih =>
    intro k l h
    simp only [moreP] at h
    cases hp : firstK ps tx k c with
    | none => rw [hp] at h; simp at h
    | some p =>
      rw [hp] at h
      simp only at h
      cases hm : moreP ps tx c n (k + 1) with
      | none => rw [hm] at h; simp at h
      | some l' =>
        rw [hm] at h
        simp only [Option.map_some, Option.some.injEq] at h
        subst h
        have h1 := ih (k + 1) l' hm
        have h2 := List.mem_of_find?_eq_some hp
        have h3 := List.find?_some hp
        simp only [decide_eq_true_eq] at h3
        have h4 := sumB_step (szTxP tx) h2 h3.2.2.1
        have e1 : szTxP tx p = p.text.size := if_pos h3.2.1
        have e2 : ((k + 1 : Nat) : Int) = (k : Int) + 1 := by omega
        rw [e2] at h1
        rw [show k + (n + 1) = k + 1 + n by omega]
        simp only [sumLP, List.map_cons, List.sum_cons] at h1 ⊢
        omega
theorem partsP_sum {ps : List Pg} {tx : Int} {l : List Pg} (h : partsP ps tx = some l) : sumLP l ≤ sumF (szTxP tx) ps := by
  unfold partsP at h
  cases hp : first0 ps tx with
  | none => rw [hp] at h; cases h
  | some p =>
    rw [hp] at h
    simp only at h
    cases hm : moreP ps tx p.count (p.count.toNat - 1) 1 with
    | none => rw [hm] at h; simp at h
    | some l' =>
      rw [hm] at h
      simp only [Option.map_some, Option.some.injEq] at h
      subst h
      have h1 := moreP_sum _ _ _ hm
      have h2 := List.mem_of_find?_eq_some hp
      have h3 := List.find?_some hp
      simp only [decide_eq_true_eq] at h3
      have h4 := sumB_step (szTxP tx) h2 h3.2.2
      have h5 := sumB_le (szTxP tx) ps ((1 + (p.count.toNat - 1) : Nat) : Int)
      have e1 : szTxP tx p = p.text.size := if_pos h3.2.1
      have e2 : ((1 : Nat) : Int) = 0 + 1 := rfl
      rw [e2] at h1
      simp only [sumLP, List.map_cons, List.sum_cons] at h1 ⊢
      omega
theorem one_recs {ps : List Pg} {tx : Int} {x : TxR} (h : oneTx ps tx = some x) : 3 * x.recs.length ≤ sumF (szTxP tx) ps := by
  unfold oneTx at h
  cases hp : partsP ps tx with
  | none => rw [hp] at h; cases h
  | some l =>
    rw [hp] at h
    simp only at h
    cases hr : recs (catP l).data.toList 0 with
    | none => rw [hr] at h; cases h
    | some rs =>
      rw [hr] at h
      simp only [Option.map_some, Option.some.injEq] at h
      subst h
      obtain ⟨h1, h2⟩ := recs_back rs _ 0 hr
      have h3 := (recsL_len rs h1).1
      rw [← h2] at h3
      have h4 := partsP_sum hp
      rw [← catP_size] at h4
      have h5 : (catP l).data.toList.length = (catP l).size := rfl
      simp only [List.drop_zero] at h3
      simp only
      omega
theorem sum_split (ps : List Pg) : ∀ ns : List Int, ns.Nodup → (ns.map (fun n => sumF (szTxP n) ps)).sum ≤ sumF (fun p => p.text.size) ps := by
  induction ps with
  | nil =>
    intro ns _
    have : ∀ m : List Int, (m.map (fun n => sumF (szTxP n) [])).sum = 0 := by
      intro m
      induction m with
      | nil => rfl
      | cons a m ih => rw [List.map_cons, List.sum_cons, ih]; rfl
    rw [this]
    exact Nat.zero_le _
  | cons p ps ih =>
    intro ns hn
    have h1 := ih ns hn
    have h2 : ∀ m : List Int, (m.map (fun n => sumF (szTxP n) (p :: ps))).sum = (m.map (fun n => szTxP n p)).sum + (m.map (fun n => sumF (szTxP n) ps)).sum := by
      intro m
      induction m with
      | nil => rfl
      | cons a m ih =>
        rw [List.map_cons, List.sum_cons, List.map_cons, List.sum_cons, List.map_cons, List.sum_cons, ih]
        have : sumF (szTxP a) (p :: ps) = szTxP a p + sumF (szTxP a) ps := by simp [sumF]
        rw [this]
        omega
    have h3 : ∀ m : List Int, p.tx ∉ m → (m.map (fun n => szTxP n p)).sum = 0 := by
      intro m
      induction m with
      | nil => intro _; rfl
      | cons a m ih =>
        intro hm
        rw [List.mem_cons, not_or] at hm
        rw [List.map_cons, List.sum_cons, ih hm.2, szTxP, if_neg hm.1]
    have h4 : ∀ m : List Int, m.Nodup → (m.map (fun n => szTxP n p)).sum ≤ p.text.size := by
      intro m
      induction m with
      | nil => intro _; simp
      | cons a m ih =>
        intro hm
        rw [List.nodup_cons] at hm
        rw [List.map_cons, List.sum_cons]
        by_cases e : p.tx = a
        · rw [h3 m (by rw [e]; exact hm.1), szTxP, if_pos e]
          exact Nat.le_refl _
        · rw [szTxP, if_neg e, Nat.zero_add]
          exact ih hm.2
    have h5 := h4 ns hn
    have h6 : sumF (fun p => p.text.size) (p :: ps) = p.text.size + sumF (fun p => p.text.size) ps := by simp [sumF]
    rw [h2, h6]
    omega
/-- All records that are gathered have their bytes. -/
theorem gather_sum (ps : List Pg) : 3 * ((gatherP ps).map (fun x => x.recs.length)).sum ≤ sumF (fun p => p.text.size) ps ∧ (gatherP ps).length ≤ ps.length := by
  have hn : (numsP ps).Nodup := (numsP_asc ps).imp (fun h => by omega)
  have h1 := sum_split ps (numsP ps) hn
  have h2 : ∀ ns : List Int, 3 * ((ns.filterMap (oneTx ps)).map (fun x => x.recs.length)).sum ≤ (ns.map (fun n => sumF (szTxP n) ps)).sum := by
    intro ns
    induction ns with
    | nil => simp
    | cons n ns ih =>
      rw [List.map_cons, List.sum_cons, List.filterMap_cons]
      split
      · omega
      · rename_i x hx
        rw [List.map_cons, List.sum_cons]
        have := one_recs hx
        omega
  refine ⟨Nat.le_trans (h2 _) h1, Nat.le_trans (List.length_filterMap_le _ _) (numsP_len ps)⟩
end Go.Proofs.Ytogfdhfmamabiaa.Words
