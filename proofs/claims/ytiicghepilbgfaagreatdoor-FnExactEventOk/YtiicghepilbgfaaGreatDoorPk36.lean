/-
  AfterW; IWipe; StRd; CeVl; VlRow
-/
import Derived.Test.YtiicghepilbgfaaGreatDoorPk35
import Derived.Test.YtiicghepilbgfaaGreatDoorPk32
import Derived.Deep.AppendLies
import Derived.Test.YtiicghepilbgfaaGreatDoorPk4
import Derived.Test.YtiicghepilbgfaaGreatDoorPk30
import Derived.Test.YtiicghepilbgfaaGreatDoorPk0
import Derived.Test.YtiicghepilbgfaaGreatDoorPk27
/-
  A leaf, or the wear, of the copy is written.
-/
namespace Go.Proofs.YtiicghepilbgfaaGreatDoor
open Go.RowKit

theorem FlashOf.setWear {w : World} {B : Nat} {ud : Option Addr} {n ucap : Nat} {bs : List Bk} {k : Nat} {b : Bk} (h : FlashOf w B (.slice ud n ucap) bs) (hk : bs[k]? = some b) :
    ∃ gu, ud = some ⟨gu, 0, none⟩ ∧ w.cell? ⟨gu, k * 3 + 1, none⟩ = some (.int .i64 b.2.1) ∧ w.frozen? ⟨gu, k * 3 + 1, none⟩ = false ∧ B ≤ gu ∧ (∀ i cs, w.heap[i]? = some (.cells cs 49 (0, 0)) → i ≠ gu) ∧
      ∀ z : Int, FlashOf (w.setCell ⟨gu, k * 3 + 1, none⟩ (.int .i64 z)) B (.slice ud n ucap) (bs.modify k (fun r => (r.1, z, r.2.2))) := by
  obtain ⟨ss, rfl, hs⟩ := h
  rw [List.getElem?_map] at hk
  obtain ⟨r, hr, rfl⟩ := Option.map_eq_some_iff.1 hk
  obtain ⟨ud', ucap', e, -, -, u3⟩ := frow_form hs.1
  injection e with e1 e2 e3
  subst e1 e2 e3
  have hkl := (List.getElem?_eq_some_iff.1 hr).1
  obtain ⟨gu, rfl, hgu, -⟩ := u3 (by omega)
  obtain ⟨-, c2, -⟩ := kown_cells (k := k) (t := cellOf r) hs.1 (by rw [List.getElem?_map, hr]; rfl)
  refine ⟨gu, rfl, c2, hs.1.frozenAt _, hgu, block_not_flash hs.1, fun z => ⟨ss.set k (r.1, z, r.2.2), modify_tell ss k _ _ hr _ rfl, ?_⟩⟩
  have := hs.wear rfl hr z
  simpa [World.setCell] using this
theorem After.wear {w w' : World} {g2 : Nat} {ud : Option Addr} {n ucap : Nat} {bs : List Bk} {k : Nat} {b : Bk} (h : After w w' g2 (.slice ud n ucap) bs) (hk : bs[k]? = some b) :
    ∃ gu, ud = some ⟨gu, 0, none⟩ ∧ w'.cell? ⟨gu, k * 3 + 1, none⟩ = some (.int .i64 b.2.1) ∧ w'.frozen? ⟨gu, k * 3 + 1, none⟩ = false ∧ ∀ z : Int, After w (w'.setCell ⟨gu, k * 3 + 1, none⟩ (.int .i64 z)) g2 (.slice ud n ucap) (bs.modify k (fun r => (r.1, z, r.2.2))) := by
  obtain ⟨h1, h2, h3, h4⟩ := h
  obtain ⟨gu, rfl, c, f, hB, hne, hput⟩ := h3.setWear hk
  exact ⟨gu, rfl, c, f, fun z => ⟨row_set_ne h1 (hne _ _ h1) _ _, row_set_ne h2 (hne _ _ h2) _ _, hput z, h4.setCell (p := ⟨gu, k * 3 + 1, none⟩) (by show _ ≤ gu; omega) _⟩⟩
theorem After.put {w w' : World} {g2 : Nat} {ud : Option Addr} {n ucap : Nat} {bs : List Bk} {k j : Nat} {b : Bk} (h : After w w' g2 (.slice ud n ucap) bs) (hk : bs[k]? = some b) (hj : j < b.2.2.length) :
    ∃ gu gl lcap, ud = some ⟨gu, 0, none⟩ ∧ w'.cell? ⟨gu, k * 3 + 2, none⟩ = some (.slice (some ⟨gl, 0, none⟩) b.2.2.length lcap) ∧ (∃ x, w'.cell? ⟨gl, j * 2, none⟩ = some x) ∧ (∃ x, w'.cell? ⟨gl, j * 2 + 1, none⟩ = some x) ∧
      w'.frozen? ⟨gl, j * 2, none⟩ = false ∧ w'.frozen? ⟨gl, j * 2 + 1, none⟩ = false ∧
      ∀ (z : Int) (t : ByteArray), After w ((w'.setCell ⟨gl, j * 2, none⟩ (.int .i64 z)).setCell ⟨gl, j * 2 + 1, none⟩ (.string t)) g2 (.slice ud n ucap) (bs.modify k (fun r => (r.1, r.2.1, r.2.2.set j (z, t)))) := by
  obtain ⟨h1, h2, h3, h4⟩ := h
  obtain ⟨gu, gl, lcap, rfl, c, x1, x2, f1, f2, hB, -, hne, hput⟩ := h3.put hk hj
  refine ⟨gu, gl, lcap, rfl, c, x1, x2, f1, f2, fun z t => ⟨row_set_ne (row_set_ne h1 (hne _ _ h1) _ _) (hne _ _ h1) _ _, row_set_ne (row_set_ne h2 (hne _ _ h2) _ _) (hne _ _ h2) _ _, hput z t, ?_⟩⟩
  exact (h4.setCell (p := ⟨gl, j * 2, none⟩) (by show _ ≤ gl; omega) _).setCell (p := ⟨gl, j * 2 + 1, none⟩) (by show _ ≤ gl; omega) _
theorem After.apart {w w' : World} {g2 gu gl m lcap : Nat} {n ucap : Nat} {bs : List Bk} {k : Nat} {b : Bk} (h : After w w' g2 (.slice (some ⟨gu, 0, none⟩) n ucap) bs) (hk : bs[k]? = some b) (hc : w'.cell? ⟨gu, k * 3 + 2, none⟩ = some (.slice (some ⟨gl, 0, none⟩) m lcap)) : gu ≠ gl := by
  obtain ⟨ss, rfl, hs⟩ := h.2.2.1
  rw [List.getElem?_map] at hk
  obtain ⟨r, hr, rfl⟩ := Option.map_eq_some_iff.1 hk
  obtain ⟨ud', ucap', e, -, -, u3⟩ := frow_form hs.1
  injection e with e1 e2 e3
  subst e1 e2 e3
  obtain ⟨-, -, c3⟩ := kown_cells (k := k) (t := cellOf r) hs.1 (by rw [List.getElem?_map, hr]; rfl)
  rw [hc] at c3
  injection c3 with c3
  have hl := hs.2.2.1 r (List.mem_of_getElem? hr)
  intro e
  refine leaf_not_block hs.1 hl.1 gu rfl ?_
  show (cellOf r).2.2.ownBlock = some gu
  rw [← c3, e]
  rfl
theorem wipe_nouse {bs : List Bk} {b : Int} (h : ¬ useP bs b) : wipeF bs b = (bs, false) := by
  unfold wipeF
  cases ho : flOk bs with
  | false => rfl
  | true =>
    have : mayW bs b = false := by
      unfold mayW
      cases hb : bs[b.toNat]? with
      | none => rfl
      | some r => exact decide_eq_false (fun hh => h ⟨ho, hh.1, r, hb, hh.2.1⟩)
    rw [this]
    rfl
theorem wipe_in {bs : List Bk} {k : Nat} {r : Bk} (ho : flOk bs = true) (hr : bs[k]? = some r) (hf : r.1 = false) :
    (r.2.1 = 1000000000 → wipeF bs (k : Int) = (bs, false)) ∧ (r.2.1 ≠ 1000000000 → wipeF bs (k : Int) = (bs.modify k (fun r => (false, r.2.1 + 1, blank4)), true)) := by
  unfold wipeF mayW
  rw [ho, Int.toNat_natCast, hr]
  simp only [Bool.true_and, decide_eq_true_eq]
  refine ⟨fun hh => ?_, fun hh => ?_⟩
  · rw [if_neg (fun hq => hq.2.2 hh)]
  · rw [if_pos ⟨by omega, hf, hh⟩]
theorem wear_in {bs : List Bk} {b : Bk} (h : flOk bs = true) (hb : b ∈ bs) : 0 ≤ b.2.1 ∧ b.2.1 ≤ 1000000000 := by
  simp only [flOk, Bool.and_eq_true, List.all_eq_true] at h
  have h2 := h.2 b hb
  simp only [blkOk, Bool.and_eq_true, decide_eq_true_eq] at h2
  exact h2.1.2
/-- The first j leaves are blank. -/
def blanked (j : Nat) (ls : List (Int × ByteArray)) : List (Int × ByteArray) := List.replicate j (0, ⟨#[]⟩) ++ ls.drop j
theorem blanked_len {j : Nat} {ls : List (Int × ByteArray)} (h : j ≤ ls.length) : (blanked j ls).length = ls.length := by simp [blanked]; omega
theorem blanked_succ {j : Nat} {ls : List (Int × ByteArray)} (h : j < ls.length) : (blanked j ls).set j (0, ⟨#[]⟩) = blanked (j + 1) ls := by
  unfold blanked
  rw [List.set_append_right _ _ (by simp), List.length_replicate, Nat.sub_self, List.drop_eq_getElem_cons h, List.set_cons_zero, List.replicate_succ', List.append_assoc]
  rfl
theorem blanked_four {ls : List (Int × ByteArray)} (h : ls.length = 4) : blanked 4 ls = blank4 := by
  unfold blanked
  rw [List.drop_eq_nil_of_le (by omega), List.append_nil]
  rfl
theorem modify_at {bs : List Bk} {k : Nat} {r q : Bk} (hr : bs[k]? = some r) : (bs.modify k (fun _ => q))[k]? = some q := by
  rw [List.getElem?_modify, hr]
  simp
theorem modify_modify (bs : List Bk) (k : Nat) (q : Bk) (f : Bk → Bk) : (bs.modify k (fun _ => q)).modify k f = bs.modify k (fun _ => f q) := by
  apply List.ext_getElem?
  intro i
  simp only [List.getElem?_modify]
  by_cases hi : k = i
  · subst hi
    cases bs[k]? <;> simp
  · simp [hi]
theorem modify_eq {bs : List Bk} {k : Nat} {r : Bk} (f : Bk → Bk) (hr : bs[k]? = some r) : bs.modify k f = bs.modify k (fun _ => f r) := by
  apply List.ext_getElem?
  intro i
  simp only [List.getElem?_modify]
  by_cases hi : k = i
  · subst hi
    rw [hr]
    simp
  · simp [hi]
end Go.Proofs.YtiicghepilbgfaaGreatDoor

/-
  impl.Wipe.
-/
namespace Go.Proofs.YtiicghepilbgfaaGreatDoor
open Go.RowKit

end Go.Proofs.YtiicghepilbgfaaGreatDoor

/-
  Flashes that can be read, by what they tell: copied, written, wiped.
-/
namespace Go.Proofs.YtiicghepilbgfaaGreatDoor
open Go.RowKit

def RdB (w : World) (v : Value) (bs : List Bk) : Prop := ∃ rs : List Rw, rs.map tellOf = bs ∧ FlashRd w v rs
/-- Neither long lists nor long texts. -/
def Sml (bs : List Bk) : Prop := bs.length ≤ 1048576 ∧ ∀ r ∈ bs, r.2.2.length ≤ 1048576 ∧ ∀ t ∈ r.2.2, t.2.size ≤ 1048576
theorem RdB.below {w w' : World} {v : Value} {bs : List Bk} (h : RdB w v bs) (hb : Below w.heap.size w w') : RdB w' v bs := by
  obtain ⟨rs, e, h⟩ := h
  exact ⟨rs, e, h.below hb⟩
theorem RdB.form {w : World} {v : Value} {bs : List Bk} (h : RdB w v bs) : ∃ ad cap, v = .slice ad bs.length cap := by
  obtain ⟨rs, rfl, vd, vc, e, -⟩ := h
  exact ⟨vd, vc, by rw [e, List.length_map]⟩
theorem FlashOf.rdb {w : World} {B : Nat} {v : Value} {bs : List Bk} (h : FlashOf w B v bs) : RdB w v bs := by
  obtain ⟨ss, e, h⟩ := h
  exact ⟨ss, e, h.rd⟩
theorem Fla.rdb {w : World} {lo hi : Nat} {v : Value} {bs : List Bk} (h : Fla lo hi v bs w) : RdB w v bs := by
  obtain ⟨ss, e, h⟩ := h
  exact ⟨ss, e, h.rd⟩
theorem RdB.lens {w : World} {v : Value} {bs : List Bk} (h : RdB w v bs) (hs : Sml bs) : ∃ rs : List Rw, rs.map tellOf = bs ∧ FlashRd w v rs ∧ rs.length ≤ 1048576 ∧ (∀ r ∈ rs, r.2.2.2.length ≤ 1048576) ∧ TxB rs := by
  obtain ⟨rs, rfl, h⟩ := h
  refine ⟨rs, rfl, h, by have := hs.1; rwa [List.length_map] at this, fun r hr => (hs.2 _ (List.mem_map_of_mem (f := tellOf) hr)).1, fun r hr t ht => (hs.2 _ (List.mem_map_of_mem (f := tellOf) hr)).2 t ht⟩
theorem Sml.modify {bs : List Bk} (h : Sml bs) (k : Nat) (f : Bk → Bk) (hf : ∀ r ∈ bs, (f r).2.2.length ≤ 1048576 ∧ ∀ t ∈ (f r).2.2, t.2.size ≤ 1048576) : Sml (bs.modify k f) := by
  refine ⟨by rw [List.length_modify]; exact h.1, fun r hr => ?_⟩
  obtain ⟨i, hi, rfl⟩ := List.getElem_of_mem hr
  rw [List.length_modify] at hi
  rw [List.getElem_modify]
  split
  · exact hf _ (List.getElem_mem _)
  · exact h.2 _ (List.getElem_mem _)
theorem Sml.prog {bs : List Bk} (h : Sml bs) (b leaf : Int) (t : ByteArray) : Sml (programF bs b leaf t).1 := by
  unfold programF
  split
  · rename_i h1
    rw [Bool.and_eq_true] at h1
    have ht : t.size ≤ 120 := by
      have h2 := h1.2
      unfold mayP at h2
      split at h2
      · cases h2
      · exact (of_decide_eq_true h2).2.2.2.2.2
    refine h.modify _ _ (fun r hr => ⟨by rw [List.length_set]; exact (h.2 r hr).1, fun u hu => ?_⟩)
    rcases List.mem_or_eq_of_mem_set hu with hu | rfl
    · exact (h.2 r hr).2 u hu
    · simp only; omega
  · exact h
theorem Sml.wipe {bs : List Bk} (h : Sml bs) (b : Int) : Sml (wipeF bs b).1 := by
  unfold wipeF
  split
  · refine h.modify _ _ (fun r hr => ⟨by simp [blank4], fun u hu => ?_⟩)
    simp only [blank4, List.mem_cons, List.not_mem_nil, or_false] at hu
    rcases hu with rfl | rfl | rfl | rfl <;> exact Nat.zero_le _
  · exact h
theorem Sml.step {bs : List Bk} (h : Sml bs) (s : Stp) : Sml (doF bs s).1 := by
  unfold doF
  split
  · exact h.prog _ _ _
  · split
    · exact h.wipe _
    · exact h
theorem Sml.all {bs : List Bk} (h : Sml bs) (l : List Stp) : Sml (doAll bs l).1 := by
  induction l generalizing bs with
  | nil => exact h
  | cons s l ih =>
    simp only [doAll]
    split
    · exact ih (h.step s)
    · exact h
theorem Sml.torn {bs : List Bk} (h : Sml bs) (s : Stp) (hd : (doF bs s).2 = true) : Sml (tornF bs s) := by
  obtain ⟨k, r, h1, h2, h3, h4, h5, -⟩ := do_place hd
  unfold tornF
  split
  · rename_i hs
    obtain ⟨j, -, -, -, -, hz⟩ := h5 hs
    refine h.modify _ _ (fun r hr => ⟨by rw [List.length_set]; exact (h.2 r hr).1, fun u hu => ?_⟩)
    rcases List.mem_or_eq_of_mem_set hu with hu | rfl
    · exact (h.2 r hr).2 u hu
    · simp only [halfT_size]; omega
  · refine h.modify _ _ (fun r hr => ⟨by rw [List.length_replicate]; exact (h.2 r hr).1, fun u hu => ?_⟩)
    rw [List.mem_replicate] at hu
    rw [hu.2]
    exact Nat.zero_le _

end Go.Proofs.YtiicghepilbgfaaGreatDoor

/-
  The cells of Vols in a row.
-/
namespace Go.Proofs.YtiicghepilbgfaaGreatDoor
open Go.RowKit

/-- The cells of elements. -/
def vlcell (t : Int × Int) : List Value := [.int .i64 t.1, .int .i64 t.2]
def vlcells (l : List (Int × Int)) : List Value := l.flatMap vlcell
theorem vlcells_len (l : List (Int × Int)) : (vlcells l).length = l.length * 2 := by
  induction l with
  | nil => rfl
  | cons t l ih => simp [vlcells, vlcell] at ih ⊢; omega
theorem vlcells_app (a b : List (Int × Int)) : vlcells (a ++ b) = vlcells a ++ vlcells b := by simp [vlcells]
theorem vlcells_cons (t : Int × Int) (l : List (Int × Int)) : vlcells (t :: l) = vlcell t ++ vlcells l := by simp [vlcells]
theorem vlcells_at (l : List (Int × Int)) (k : Nat) (t : Int × Int) (h : l[k]? = some t) (j : Nat) (v : Value) (hj : (vlcell t)[j]? = some v) : (vlcells l)[k * 2 + j]? = some v := by
  have hlt : j < 2 := (List.getElem?_eq_some_iff.1 hj).1
  induction l generalizing k with
  | nil => simp at h
  | cons a l ih =>
    rw [vlcells_cons]
    cases k with
    | zero =>
      simp at h
      subst h
      rw [List.getElem?_append_left (by show _ < 2; omega), Nat.zero_mul, Nat.zero_add]
      exact hj
    | succ k =>
      rw [List.getElem?_append_right (by show 2 ≤ _; omega), show (k + 1) * 2 + j - (vlcell a).length = k * 2 + j by show _ - 2 = _; omega]
      exact ih k (by simpa using h)
theorem vlcells_one (l : List (Int × Int)) : ∀ v ∈ vlcells l, v.oneCell' = true := by
  intro v hv
  obtain ⟨t, -, ht⟩ := List.mem_flatMap.1 hv
  simp [vlcell] at ht
  rcases ht with h | h <;> subst h <;> rfl
theorem infoVl : (Tryz.prog.info? 72).map (fun i => (i.zero, i.size, i.bytes)) = some (some (.agg #[.int .i64 0, .int .i64 0]), 2, 16) := by kernel_rfl
theorem infoVlz : (Tryz.prog.info? 72).map (·.size) = some 2 := by kernel_rfl
theorem vlcells_set {l : List (Int × Int)} {k : Nat} {v : Int × Int} (h : l[k]? = some v) (r : Int) : (vlcells l).set (k * 2 + 1) (.int .i64 r) = vlcells (l.set k (v.1, r)) := by
  induction l generalizing k with
  | nil => simp at h
  | cons a l ih =>
    cases k with
    | zero =>
      simp at h
      subst h
      rfl
    | succ k =>
      have e : (k + 1) * 2 + 1 = (k * 2 + 1) + 2 := by omega
      rw [e, List.set_cons_succ, vlcells_cons, vlcells_cons, ← ih (by simpa using h)]
      rfl
end Go.Proofs.YtiicghepilbgfaaGreatDoor

/-
  Rows of volumes that can be read.
-/
namespace Go.Proofs.YtiicghepilbgfaaGreatDoor
open Go.RowKit
set_option maxRecDepth 100000

/-- Elements that came in, each in 2 cells. -/
def VlRow (w : World) (a : Option Addr) (len : Nat) (ls : List (Int × Int)) : Prop :=
  ls.length = len ∧ len ≤ maxLen ∧ (∀ t ∈ ls, True) ∧ (0 < len → ∃ b off, a = some ⟨b, off, none⟩ ∧ b < w.heap.size ∧ ∀ i t, ls[i]? = some t → w.cell? ⟨b, off + i * 2, none⟩ = some (.int .i64 t.1) ∧ w.cell? ⟨b, off + i * 2 + 1, none⟩ = some (.int .i64 t.2))
theorem VlRow.below {w w' : World} {a : Option Addr} {len : Nat} {ls : List (Int × Int)} (h : VlRow w a len ls) (hb : Below w.heap.size w w') : VlRow w' a len ls := by
  obtain ⟨h1, h2, h3, h4⟩ := h
  refine ⟨h1, h2, h3, fun h0 => ?_⟩
  obtain ⟨b, off, e, hl, hc⟩ := h4 h0
  have hs := hb.size
  refine ⟨b, off, e, by omega, fun i t ht => ?_⟩
  obtain ⟨c0, c1⟩ := hc i t ht
  exact ⟨(hb.cell (show b < w.heap.size from hl)).trans c0, (hb.cell (show b < w.heap.size from hl)).trans c1⟩

theorem VlRow.at {w : World} {a : Option Addr} {len : Nat} {ls : List (Int × Int)} (h : VlRow w a len ls) {k : Nat} {t : Int × Int} (hk : ls[k]? = some t) :
    ∃ b off, a = some ⟨b, off, none⟩ ∧ b < w.heap.size ∧ w.cell? ⟨b, off + k * 2, none⟩ = some (.int .i64 t.1) ∧ w.cell? ⟨b, off + k * 2 + 1, none⟩ = some (.int .i64 t.2) := by
  obtain ⟨h1, -, -, h4⟩ := h
  have hl := (List.getElem?_eq_some_iff.1 hk).1
  obtain ⟨b, off, e, hb, hc⟩ := h4 (by omega)
  obtain ⟨c0, c1⟩ := hc k t hk
  exact ⟨b, off, e, hb, c0, c1⟩
theorem VlRow.of_own {w : World} {base : Nat} {v : Value} {n : Nat} {M : List (Int × Int)} (hn : M.length = n) (h : w.ownsRow base 72 2 v n (vlcells M)) :
    ∃ a c, v = .slice a n c ∧ VlRow w a n M := by
  have hh := h
  obtain ⟨-, h2⟩ := hh
  rcases h2 with ⟨rfl, rfl⟩ | ⟨g, cap, cur, rfl, h3, h4, h5, h6, -, -⟩
  · exact ⟨none, 0, rfl, hn, by unfold maxLen; omega, by simp, fun h => by omega⟩
  · refine ⟨_, _, rfl, hn, by omega, by simp, fun _ => ⟨g, 0, rfl, (Array.getElem?_eq_some_iff.1 h4).1, fun i t hi => ?_⟩⟩
    have hc := fun j v hj => h.cells (g := g) rfl (i * 2 + j) v (vlcells_at M i t hi j v hj)
    have ea : ∀ j, (⟨g, 0, none⟩ : Addr).add j = ⟨g, 0 + j, none⟩ := fun j => by simp only [Addr.add]; split <;> simp_all
    simp only [ea] at hc
    exact ⟨hc 0 _ rfl, by simpa [Nat.add_assoc] using hc 1 _ rfl⟩
end Go.Proofs.YtiicghepilbgfaaGreatDoor
