/-
  TxMath3; CeFd; FdArg; PgV; ToPg
-/
import Derived.Test.YtmpmdacfibgepagTxMath2
import Derived.Test.YtmpmdacfibgepagPk0
import Derived.Test.YtmpmdacfibgepagPk16
import Derived.Test.YtmpmdacfibgepagPgMath
/-
  Plain facts: how much is gathered, and of how many records.
-/
namespace Go.Proofs.Ytmpmdacfibgepag.Words

/-- The texts of one transaction's pages. -/
def szTxP (tx : Int) (p : Pg) : Nat := if p.tx = tx then p.text.size else 0
def sumLP (l : List Pg) : Nat := (l.map (fun p => p.text.size)).sum
theorem catP_size (l : List Pg) : (catP l).size = sumLP l := by
  show (l.flatMap (fun p => p.text.data.toList)).toArray.size = _
  rw [List.size_toArray, List.length_flatMap]
  rfl
theorem moreP_sum {ps : List Pg} {tx c : Int} : ∀ (n k : Nat) (l : List Pg), moreP ps tx c n k = some l → sumBP (szTxP tx) ps k + sumLP l ≤ sumBP (szTxP tx) ps ((k + n : Nat) : Int) := by
  intro n
  induction n with
  | zero => intro k l h; simp only [moreP, Option.some.injEq] at h; subst h; simp [sumLP]
  | succ n ih =>
    intro k l h
    simp only [moreP] at h
    cases hp : firstK ps tx k c with
    | none => rw [hp] at h; simp at h
    | some p =>
      rw [hp] at h
      simp only at h
      cases hm : moreP ps tx c n (k + 1) with
      | none => rw [hm] at h; simp at h
      | some l' =>
        rw [hm] at h
        simp only [Option.map_some, Option.some.injEq] at h
        subst h
        have h1 := ih (k + 1) l' hm
        have h2 := List.mem_of_find?_eq_some hp
        have h3 := List.find?_some hp
        simp only [decide_eq_true_eq] at h3
        have h4 := sumB_step (szTxP tx) h2 h3.2.2.1
        have e1 : szTxP tx p = p.text.size := if_pos h3.2.1
        have e2 : ((k + 1 : Nat) : Int) = (k : Int) + 1 := by omega
        rw [e2] at h1
        rw [show k + (n + 1) = k + 1 + n by omega]
        simp only [sumLP, List.map_cons, List.sum_cons] at h1 ⊢
        omega
theorem partsP_sum {ps : List Pg} {tx : Int} {l : List Pg} (h : partsP ps tx = some l) : sumLP l ≤ sumF (szTxP tx) ps := by
  unfold partsP at h
  cases hp : first0 ps tx with
  | none => rw [hp] at h; cases h
  | some p =>
    rw [hp] at h
    simp only at h
    cases hm : moreP ps tx p.count (p.count.toNat - 1) 1 with
    | none => rw [hm] at h; simp at h
    | some l' =>
      rw [hm] at h
      simp only [Option.map_some, Option.some.injEq] at h
      subst h
      have h1 := moreP_sum _ _ _ hm
      have h2 := List.mem_of_find?_eq_some hp
      have h3 := List.find?_some hp
      simp only [decide_eq_true_eq] at h3
      have h4 := sumB_step (szTxP tx) h2 h3.2.2
      have h5 := sumB_le (szTxP tx) ps ((1 + (p.count.toNat - 1) : Nat) : Int)
      have e1 : szTxP tx p = p.text.size := if_pos h3.2.1
      have e2 : ((1 : Nat) : Int) = 0 + 1 := rfl
      rw [e2] at h1
      simp only [sumLP, List.map_cons, List.sum_cons] at h1 ⊢
      omega
theorem one_recs {ps : List Pg} {tx : Int} {x : TxR} (h : oneTx ps tx = some x) : 3 * x.recs.length ≤ sumF (szTxP tx) ps := by
  unfold oneTx at h
  cases hp : partsP ps tx with
  | none => rw [hp] at h; cases h
  | some l =>
    rw [hp] at h
    simp only at h
    cases hr : recs (catP l).data.toList 0 with
    | none => rw [hr] at h; cases h
    | some rs =>
      rw [hr] at h
      simp only [Option.map_some, Option.some.injEq] at h
      subst h
      obtain ⟨h1, h2⟩ := recs_back rs _ 0 hr
      have h3 := (recsL_len rs h1).1
      rw [← h2] at h3
      have h4 := partsP_sum hp
      rw [← catP_size] at h4
      have h5 : (catP l).data.toList.length = (catP l).size := rfl
      simp only [List.drop_zero] at h3
      simp only
      omega
theorem sum_split (ps : List Pg) : ∀ ns : List Int, ns.Nodup → (ns.map (fun n => sumF (szTxP n) ps)).sum ≤ sumF (fun p => p.text.size) ps := by
  induction ps with
  | nil =>
    intro ns _
    have : ∀ m : List Int, (m.map (fun n => sumF (szTxP n) [])).sum = 0 := by
      intro m
      induction m with
      | nil => rfl
      | cons a m ih => rw [List.map_cons, List.sum_cons, ih]; rfl
    rw [this]
    exact Nat.zero_le _
  | cons p ps ih =>
    intro ns hn
    have h1 := ih ns hn
    have h2 : ∀ m : List Int, (m.map (fun n => sumF (szTxP n) (p :: ps))).sum = (m.map (fun n => szTxP n p)).sum + (m.map (fun n => sumF (szTxP n) ps)).sum := by
      intro m
      induction m with
      | nil => rfl
      | cons a m ih =>
        rw [List.map_cons, List.sum_cons, List.map_cons, List.sum_cons, List.map_cons, List.sum_cons, ih]
        have : sumF (szTxP a) (p :: ps) = szTxP a p + sumF (szTxP a) ps := by simp [sumF]
        rw [this]
        omega
    have h3 : ∀ m : List Int, p.tx ∉ m → (m.map (fun n => szTxP n p)).sum = 0 := by
      intro m
      induction m with
      | nil => intro _; rfl
      | cons a m ih =>
        intro hm
        rw [List.mem_cons, not_or] at hm
        rw [List.map_cons, List.sum_cons, ih hm.2, szTxP, if_neg hm.1]
    have h4 : ∀ m : List Int, m.Nodup → (m.map (fun n => szTxP n p)).sum ≤ p.text.size := by
      intro m
      induction m with
      | nil => intro _; simp
      | cons a m ih =>
        intro hm
        rw [List.nodup_cons] at hm
        rw [List.map_cons, List.sum_cons]
        by_cases e : p.tx = a
        · rw [h3 m (by rw [e]; exact hm.1), szTxP, if_pos e]
          exact Nat.le_refl _
        · rw [szTxP, if_neg e, Nat.zero_add]
          exact ih hm.2
    have h5 := h4 ns hn
    have h6 : sumF (fun p => p.text.size) (p :: ps) = p.text.size + sumF (fun p => p.text.size) ps := by simp [sumF]
    rw [h2, h6]
    omega
/-- All records that are gathered have their bytes. -/
theorem gather_sum (ps : List Pg) : 3 * ((gatherP ps).map (fun x => x.recs.length)).sum ≤ sumF (fun p => p.text.size) ps ∧ (gatherP ps).length ≤ ps.length := by
  have hn : (numsP ps).Nodup := (numsP_asc ps).imp (fun h => by omega)
  have h1 := sum_split ps (numsP ps) hn
  have h2 : ∀ ns : List Int, 3 * ((ns.filterMap (oneTx ps)).map (fun x => x.recs.length)).sum ≤ (ns.map (fun n => sumF (szTxP n) ps)).sum := by
    intro ns
    induction ns with
    | nil => simp
    | cons n ns ih =>
      rw [List.map_cons, List.sum_cons, List.filterMap_cons]
      split
      · omega
      · rename_i x hx
        rw [List.map_cons, List.sum_cons]
        have := one_recs hx
        omega
  refine ⟨Nat.le_trans (h2 _) h1, Nat.le_trans (List.length_filterMap_le _ _) (numsP_len ps)⟩
end Go.Proofs.Ytmpmdacfibgepag.Words

/-
  The cells of Founds in a row.
-/
namespace Go.Proofs.Ytmpmdacfibgepag
open Go.RowKit

/-- The cells of elements. -/
def fdcell (t : Int × Int × Int × Int × Int × Int × Int × ByteArray) : List Value := [.int .i64 t.1, .int .i64 t.2.1, .int .i64 t.2.2.1, .int .i64 t.2.2.2.1, .int .i64 t.2.2.2.2.1, .int .i64 t.2.2.2.2.2.1, .int .i64 t.2.2.2.2.2.2.1, .string t.2.2.2.2.2.2.2]
def fdcells (l : List (Int × Int × Int × Int × Int × Int × Int × ByteArray)) : List Value := l.flatMap fdcell
theorem fdcells_len (l : List (Int × Int × Int × Int × Int × Int × Int × ByteArray)) : (fdcells l).length = l.length * 8 := by
  induction l with
  | nil => rfl
  | cons t l ih => simp [fdcells, fdcell] at ih ⊢; omega
theorem fdcells_app (a b : List (Int × Int × Int × Int × Int × Int × Int × ByteArray)) : fdcells (a ++ b) = fdcells a ++ fdcells b := by simp [fdcells]
theorem fdcells_cons (t : Int × Int × Int × Int × Int × Int × Int × ByteArray) (l : List (Int × Int × Int × Int × Int × Int × Int × ByteArray)) : fdcells (t :: l) = fdcell t ++ fdcells l := by simp [fdcells]
theorem fdcells_at (l : List (Int × Int × Int × Int × Int × Int × Int × ByteArray)) (k : Nat) (t : Int × Int × Int × Int × Int × Int × Int × ByteArray) (h : l[k]? = some t) (j : Nat) (v : Value) (hj : (fdcell t)[j]? = some v) : (fdcells l)[k * 8 + j]? = some v := by
  have hlt : j < 8 := (List.getElem?_eq_some_iff.1 hj).1
  induction l generalizing k with
  | nil => simp at h
  | cons a l ih =>
    rw [fdcells_cons]
    cases k with
    | zero =>
      simp at h
      subst h
      rw [List.getElem?_append_left (by show _ < 8; omega), Nat.zero_mul, Nat.zero_add]
      exact hj
    | succ k =>
      rw [List.getElem?_append_right (by show 8 ≤ _; omega), show (k + 1) * 8 + j - (fdcell a).length = k * 8 + j by show _ - 8 = _; omega]
      exact ih k (by simpa using h)
theorem fdcells_one (l : List (Int × Int × Int × Int × Int × Int × Int × ByteArray)) : ∀ v ∈ fdcells l, v.oneCell' = true := by
  intro v hv
  obtain ⟨t, -, ht⟩ := List.mem_flatMap.1 hv
  simp [fdcell] at ht
  rcases ht with h | h | h | h | h | h | h | h <;> subst h <;> rfl
theorem infoFd : (Try.prog.info? 94).map (fun i => (i.zero, i.size, i.bytes)) = some (some (.agg #[.int .i64 0, .int .i64 0, .int .i64 0, .int .i64 0, .int .i64 0, .int .i64 0, .int .i64 0, .string ⟨#[]⟩]), 8, 72) := by kernel_rfl
theorem infoFdz : (Try.prog.info? 94).map (·.size) = some 8 := by kernel_rfl
end Go.Proofs.Ytmpmdacfibgepag

/-
  Rows of what a scan found that come in as arguments: those that can be read.
-/
namespace Go.Proofs.Ytmpmdacfibgepag
open Go.RowKit
open Words
set_option maxRecDepth 100000

/-- Elements that came in, each in 8 cells. -/
def FdRow (w : World) (a : Option Addr) (len : Nat) (ls : List (Int × Int × Int × Int × Int × Int × Int × ByteArray)) : Prop :=
  ls.length = len ∧ len ≤ maxLen ∧ (∀ t ∈ ls, t.2.2.2.2.2.2.2.size ≤ maxLen) ∧ (0 < len → ∃ b off, a = some ⟨b, off, none⟩ ∧ b < w.heap.size ∧ ∀ i t, ls[i]? = some t → w.cell? ⟨b, off + i * 8, none⟩ = some (.int .i64 t.1) ∧ w.cell? ⟨b, off + i * 8 + 1, none⟩ = some (.int .i64 t.2.1) ∧ w.cell? ⟨b, off + i * 8 + 2, none⟩ = some (.int .i64 t.2.2.1) ∧ w.cell? ⟨b, off + i * 8 + 3, none⟩ = some (.int .i64 t.2.2.2.1) ∧ w.cell? ⟨b, off + i * 8 + 4, none⟩ = some (.int .i64 t.2.2.2.2.1) ∧ w.cell? ⟨b, off + i * 8 + 5, none⟩ = some (.int .i64 t.2.2.2.2.2.1) ∧ w.cell? ⟨b, off + i * 8 + 6, none⟩ = some (.int .i64 t.2.2.2.2.2.2.1) ∧ w.cell? ⟨b, off + i * 8 + 7, none⟩ = some (.string t.2.2.2.2.2.2.2))
theorem FdRow.below {w w' : World} {a : Option Addr} {len : Nat} {ls : List (Int × Int × Int × Int × Int × Int × Int × ByteArray)} (h : FdRow w a len ls) (hb : Below w.heap.size w w') : FdRow w' a len ls := by
  obtain ⟨h1, h2, h3, h4⟩ := h
  refine ⟨h1, h2, h3, fun h0 => ?_⟩
  obtain ⟨b, off, e, hl, hc⟩ := h4 h0
  have hs := hb.size
  refine ⟨b, off, e, by omega, fun i t ht => ?_⟩
  obtain ⟨c0, c1, c2, c3, c4, c5, c6, c7⟩ := hc i t ht
  exact ⟨(hb.cell (show b < w.heap.size from hl)).trans c0, (hb.cell (show b < w.heap.size from hl)).trans c1, (hb.cell (show b < w.heap.size from hl)).trans c2, (hb.cell (show b < w.heap.size from hl)).trans c3, (hb.cell (show b < w.heap.size from hl)).trans c4, (hb.cell (show b < w.heap.size from hl)).trans c5, (hb.cell (show b < w.heap.size from hl)).trans c6, (hb.cell (show b < w.heap.size from hl)).trans c7⟩

def Words.Fnd.tu (x : Fnd) : Int × Int × Int × Int × Int × Int × Int × ByteArray := (x.block, x.leaf, x.page.kind, x.page.seq, x.page.tx, x.page.part, x.page.count, x.page.text)
theorem fdcells_eq (M : List Fnd) : fdcells (M.map Fnd.tu) = fcells M := by
  unfold fdcells fcells
  rw [List.flatMap_map]
  rfl
theorem fd_of_tu (ls : List (Int × Int × Int × Int × Int × Int × Int × ByteArray)) : ∃ M : List Fnd, M.map Fnd.tu = ls := ⟨ls.map (fun t => ⟨t.1, t.2.1, ⟨t.2.2.1, t.2.2.2.1, t.2.2.2.2.1, t.2.2.2.2.2.1, t.2.2.2.2.2.2.1, t.2.2.2.2.2.2.2⟩⟩), by rw [List.map_map]; exact (List.map_congr_left (fun t _ => rfl)).trans (List.map_id _)⟩
end Go.Proofs.Ytmpmdacfibgepag

/-
  A page as a value.
-/
namespace Go.Proofs.Ytmpmdacfibgepag
open Go.RowKit
open Words

def pgVal (p : Pg) : Value := .agg #[.int .i64 p.kind, .int .i64 p.seq, .int .i64 p.tx, .int .i64 p.part, .int .i64 p.count, .string p.text]
end Go.Proofs.Ytmpmdacfibgepag

/-
  The laws' own toPage.
-/
namespace Go.Proofs.Ytmpmdacfibgepag
open Go.RowKit
open Words

set_option maxHeartbeats 400000 in
set_option maxRecDepth 100000 in
theorem toPage_any (p : Pg) (w : World) :
    Calls Try.prog 78 #[pgVal p] w fun e w' => e = .returned (pgVal p) ∧ Below w.heap.size w w' := by
  obtain ⟨k, s, x, q, c, t⟩ := p
  unfold pgVal
  simp only
  go_enter Try.func78, Try.ntmps78
  go_wp2
  exact bodyPost_ret (v := .agg #[.int .i64 k, .int .i64 s, .int .i64 x, .int .i64 q, .int .i64 c, .string t]) (by simp [results, Try.results78, go_sem]) rfl ⟨rfl, (((Below.refl _ _).alloc (Nat.le_refl _) _).alloc (by simp) _).alloc (by simp; omega) _⟩
end Go.Proofs.Ytmpmdacfibgepag
