/-
  FMath; IBlank; FOf; IAt; SoMath; FdC; FdR
-/
import Derived.Test.YtfmnaidhfgmemaaGreatDoorPk13
import Derived.Test.YtfmnaidhfgmemaaGreatDoorPk1
import Derived.Test.YtfmnaidhfgmemaaGreatDoorPk7
import Derived.Test.YtfmnaidhfgmemaaGreatDoorPk0
namespace Go.Proofs.YtfmnaidhfgmemaaGreatDoor
def Tx (ls : List (Int × ByteArray)) : Prop := ∀ t ∈ ls, t.2.size ≤ 1048576
def TxB (rs : List Rw) : Prop := ∀ r ∈ rs, Tx r.2.2.2
theorem Tx.succ {ls : List (Int × ByteArray)} {k : Nat} {t : Int × ByteArray} (h : Tx (ls.take k)) (ht : ls[k]? = some t) (hs : t.2.size ≤ 1048576) : Tx (ls.take (k + 1)) := by
  obtain ⟨h1, h2⟩ := List.getElem?_eq_some_iff.1 ht
  rw [List.take_succ_eq_append_getElem h1, h2]
  intro u hu
  rcases List.mem_append.1 hu with hu | hu
  · exact h u hu
  · rw [List.mem_singleton] at hu
    subst hu
    exact hs
theorem TxB.succ {rs : List Rw} {k : Nat} {r : Rw} (h : TxB (rs.take k)) (hr : rs[k]? = some r) (hs : Tx r.2.2.2) : TxB (rs.take (k + 1)) := by
  obtain ⟨h1, h2⟩ := List.getElem?_eq_some_iff.1 hr
  rw [List.take_succ_eq_append_getElem h1, h2]
  intro u hu
  rcases List.mem_append.1 hu with hu | hu
  · exact h u hu
  · rw [List.mem_singleton] at hu
    subst hu
    exact hs
end Go.Proofs.YtfmnaidhfgmemaaGreatDoor

namespace Go.Proofs.YtfmnaidhfgmemaaGreatDoor
open Go.RowKit
set_option maxHeartbeats 400000 in
set_option maxRecDepth 100000 in
theorem iblank_any (g o : Nat) (v : Value) (ls : List (Int × ByteArray)) (B : Nat) (w : World) (hl : ls.length ≤ 1048576) (hc : w.cell? ⟨g, o + 2, none⟩ = some v) (ha : w.ownsRow B 119 2 v ls.length (lcells ls)) :
    Calls Tryz.prog 61 #[.pointer (some ⟨g, o, none⟩)] w fun e w' => e = .returned (.int .i64 (blanks ls : Nat)) ∧ w' = w := by
  obtain ⟨ad, capa, rfl, a1, a2, a3⟩ := frow_form ha
  unfold maxLen at a2
  have A3 := hide a3
  have HA := hide ha
  clear a3 ha
  go_enter Tryz.func61, Tryz.ntmps61
  go_wp2
  go_loop [3, 10] (fun cv iv => ∃ k m : Nat, k ≤ ls.length ∧ m ≤ k ∧ iv = .int .i64 k ∧ cv = .int .i64 m ∧ Hid (blanks (ls.take k) = m)) (fun _ iv => ls.length - (intOf iv).toNat)
  case atStart => exact ⟨0, 0, Nat.zero_le _, Nat.zero_le _, rfl, rfl, rfl⟩
  case round =>
    obtain ⟨k, m, hk, hm, rfl, rfl, HM⟩ := hrel
    by_cases hlt : (k : Int) < ls.length
    · obtain ⟨gl, rfl, _, hg⟩ := A3.out (by omega)
      have hkl : k < ls.length := by omega
      obtain ⟨z, t, ht⟩ : ∃ z t, ls[k]? = some (z, t) := ⟨ls[k].1, ls[k].2, List.getElem?_eq_getElem hkl⟩
      obtain ⟨c1, -⟩ := lown_cells HA.out ht
      simp only at c1
      have HT := hide (blanks_take ht)
      have k0 : (0 : Int) ≤ k := by omega
      clear ht
      by_cases hz : z = 0
      · subst hz
        go_wp2
        go_round
        case rel => exact ⟨k + 1, m + 1, by omega, by omega, by go_num, by go_num, (by have := HT.out; have := HM.out; simp at *; omega : blanks (ls.take (k + 1)) = m + 1)⟩
        case measure => simp [intOf]; omega
      · have hz2 : (z == 0) = false := by simpa using hz
        have HM2 : Hid (blanks (ls.take (k + 1)) = m) := by
          show _ = _
          rw [HT.out, HM.out, if_neg hz]
          rfl
        go_wp2
        go_round
        case rel => exact ⟨k + 1, m, by omega, by omega, by go_num, rfl, HM2⟩
        case measure => simp [intOf]; omega
    · have HE : Hid (blanks ls = m) := by
        show _ = _
        rw [← HM.out, List.take_of_length_le (by omega)]
      go_wp2
      go_ret
      exact ⟨by rw [HE.out]; rfl, rfl⟩
end Go.Proofs.YtfmnaidhfgmemaaGreatDoor

namespace Go.Proofs.YtfmnaidhfgmemaaGreatDoor
open Go.RowKit
theorem infoLeaf2 : (Tryz.prog.info? 119).map (·.size) = some 2 := by kernel_rfl
theorem infoBlock3 : (Tryz.prog.info? 80).map (·.size) = some 3 := by kernel_rfl
theorem infoFlash1 : (Tryz.prog.info? 39).map (·.size) = some 1 := by kernel_rfl
theorem leaf_cell {w : World} {B g : Nat} {n hi : Nat} {xs : List Value} {v : Value} {ls : List (Int × ByteArray)} (hu : w.ownsRow B 80 3 (.slice (some ⟨g, 0, none⟩) n n) n xs) (h : LeafIn w B hi v ls) (j : Nat) (u : Value) : LeafIn (w.setCell ⟨g, j, none⟩ u) B hi v ls :=
  ⟨h.1.kept (grown_cell w g j u) (leaf_ne hu h.1), h.2⟩
def FlashOf (w : World) (B : Nat) (v : Value) (bs : List Bk) : Prop := ∃ ss : List Rw, ss.map tellOf = bs ∧ FlashIn w B w.heap.size v ss
theorem FlashOf.form {w : World} {B : Nat} {v : Value} {bs : List Bk} (h : FlashOf w B v bs) : ∃ ad cap, v = .slice ad bs.length cap := by
  obtain ⟨ss, rfl, hs⟩ := h
  obtain ⟨ad, cap, rfl, -⟩ := frow_form hs.1
  exact ⟨ad, cap, by simp⟩
theorem FlashIn.down {w : World} {lo lo' hi : Nat} {v : Value} {rs : List Rw} (h : FlashIn w lo hi v rs) (hh : lo' ≤ lo) : FlashIn w lo' hi v rs := ⟨own_down h.1 hh, h.2.1, fun r hr => ⟨own_down (h.2.2.1 r hr).1 hh, (h.2.2.1 r hr).2⟩, h.2.2.2⟩
theorem FlashOf.down {w : World} {B B' : Nat} {v : Value} {bs : List Bk} (h : FlashOf w B v bs) (hh : B' ≤ B) : FlashOf w B' v bs := by
  obtain ⟨ss, e, hs⟩ := h
  exact ⟨ss, e, hs.down hh⟩
theorem FlashOf.cell {w : World} {B : Nat} {v : Value} {bs : List Bk} (h : FlashOf w B v bs) {g : Nat} (hg : g < B) (i : Nat) (u : Value) : FlashOf (w.setCell ⟨g, i, none⟩ u) B v bs := by
  obtain ⟨ss, e, hs⟩ := h
  refine ⟨ss, e, ?_⟩
  have := hs.kept (w' := w.setCell ⟨g, i, none⟩ u) (fun k h1 _ => Below.heap_setCell _ _ _ _ (by show k ≠ g; omega))
  simpa [World.setCell] using this
end Go.Proofs.YtfmnaidhfgmemaaGreatDoor

namespace Go.Proofs.YtfmnaidhfgmemaaGreatDoor
open Go.RowKit
set_option maxHeartbeats 400000 in
set_option maxRecDepth 100000 in
theorem iat_in (g n cap k : Nat) (w : World) (_hn : n ≤ 1048576) (hk : k < n) :
    Calls Tryz.prog 60 #[.agg #[.slice (some ⟨g, 0, none⟩) n cap], .int .i64 k] w fun e w' => e = .returned (.pointer (some ⟨g, k * 3, none⟩)) ∧ Below w.heap.size w w' := by
  have HB := hide ((Below.refl w.heap.size w).alloc (Nat.le_refl _) (.cells #[.slice (some ⟨g, 0, none⟩) n cap] 39))
  have h1 : (0 : Int) ≤ k := by omega
  have h2 : (k : Int) < n := by omega
  go_enter Tryz.func60, Tryz.ntmps60
  go_wp2
  go_ret
  exact ⟨rfl, HB.out⟩
set_option maxHeartbeats 400000 in
set_option maxRecDepth 100000 in
theorem iat_out (ad : Option Addr) (n cap : Nat) (b : Int) (w : World) (_hn : n ≤ 1048576) (hb : ¬ (0 ≤ b ∧ b ≤ (n : Int) - 1)) :
    Calls Tryz.prog 60 #[.agg #[.slice ad n cap], .int .i64 b] w fun e w' => e = .returned (.pointer none) ∧ Below w.heap.size w w' := by
  have HB := hide ((Below.refl w.heap.size w).alloc (Nat.le_refl _) (.cells #[.slice ad n cap] 39))
  by_cases h0 : b < 0
  · go_enter Tryz.func60, Tryz.ntmps60
    go_wp2
    go_ret
    exact ⟨rfl, HB.out⟩
  · have h1 : (n : Int) ≤ b := by omega
    clear hb
    go_enter Tryz.func60, Tryz.ntmps60
    go_wp2
    go_ret
    exact ⟨rfl, HB.out⟩
set_option maxHeartbeats 400000 in
set_option maxRecDepth 100000 in
theorem ilat_off (g o gl lo n cap k : Nat) (w : World) (_hn : n ≤ 1048576) (hk : k < n) (hc : w.cell? ⟨g, o + 2, none⟩ = some (.slice (some ⟨gl, lo, none⟩) n cap)) :
    Calls Tryz.prog 174 #[.pointer (some ⟨g, o, none⟩), .int .i64 k] w fun e w' => e = .returned (.pointer (some ⟨gl, lo + k * 2, none⟩)) ∧ w' = w := by
  have h1 : (0 : Int) ≤ k := by omega
  have h2 : (k : Int) < n := by omega
  go_enter Tryz.func174, Tryz.ntmps174
  go_wp2
  go_ret
  exact ⟨rfl, rfl⟩
set_option maxHeartbeats 400000 in
set_option maxRecDepth 100000 in
theorem ilat_out (g o n cap : Nat) (ad : Option Addr) (b : Int) (w : World) (_hn : n ≤ 1048576) (hb : ¬ (0 ≤ b ∧ b ≤ (n : Int) - 1)) (hc : w.cell? ⟨g, o + 2, none⟩ = some (.slice ad n cap)) :
    Calls Tryz.prog 174 #[.pointer (some ⟨g, o, none⟩), .int .i64 b] w fun e w' => e = .returned (.pointer none) ∧ w' = w := by
  by_cases h0 : b < 0
  · go_enter Tryz.func174, Tryz.ntmps174
    go_wp2
    go_ret
    exact ⟨rfl, rfl⟩
  · have h1 : (n : Int) ≤ b := by omega
    clear hb
    go_enter Tryz.func174, Tryz.ntmps174
    go_wp2
    go_ret
    exact ⟨rfl, rfl⟩
end Go.Proofs.YtfmnaidhfgmemaaGreatDoor

namespace Go.Proofs.YtfmnaidhfgmemaaGreatDoor.Words
structure Fnd where
  block : Int
  leaf : Int
  page : Pg
def Fnd.key (x : Fnd) : Int := x.page.seq
def Asc (l : List Fnd) : Prop := l.Pairwise (fun a b => a.key ≤ b.key)
def Akin (l k : List Fnd) : Prop := ∀ c : Int, l.filter (fun x => x.key == c) = k.filter (fun x => x.key == c)
theorem Akin.refl (l : List Fnd) : Akin l l := fun _ => rfl
theorem Akin.symm {l k : List Fnd} (h : Akin l k) : Akin k l := fun c => (h c).symm
theorem Akin.trans {l k m : List Fnd} (h : Akin l k) (h2 : Akin k m) : Akin l m := fun c => (h c).trans (h2 c)
theorem Akin.app {a b c d : List Fnd} (h : Akin a b) (h2 : Akin c d) : Akin (a ++ c) (b ++ d) := fun z => by
  rw [List.filter_append, List.filter_append, h z, h2 z]
theorem Akin.flip {a b : List Fnd} (h : ∀ x ∈ a, ∀ y ∈ b, x.key ≠ y.key) : Akin (a ++ b) (b ++ a) := fun c => by
  rw [List.filter_append, List.filter_append]
  by_cases hc : ∃ x ∈ a, x.key = c
  · obtain ⟨x, hx, rfl⟩ := hc
    have : b.filter (fun y => y.key == x.key) = [] := by
      rw [List.filter_eq_nil_iff]
      intro y hy
      have := h x hx y hy
      simpa using fun e => this e.symm
    rw [this]
    simp
  · have : a.filter (fun y => y.key == c) = [] := by
      rw [List.filter_eq_nil_iff]
      intro y hy
      simpa using fun e => hc ⟨y, hy, e⟩
    rw [this]
    simp
theorem Akin.mem {l k : List Fnd} (h : Akin l k) (x : Fnd) : x ∈ l ↔ x ∈ k := by
  have := h x.key
  have e : ∀ m : List Fnd, x ∈ m ↔ x ∈ m.filter (fun y => y.key == x.key) := fun m => by simp
  rw [e l, e k, this]
theorem Akin.eq : ∀ {l k : List Fnd}, Akin l k → Asc l → Asc k → l = k := by
  intro l
  induction l with
  | nil =>
    intro k h _ _
    cases k with
    | nil => rfl
    | cons b k =>
      have := h b.key
      simp at this
  | cons a l ih =>
    intro k h ha hk
    cases k with
    | nil =>
      have := h a.key
      simp at this
    | cons b k =>
      have hab : a.key = b.key := by
        have h1 : b ∈ a :: l := (h.mem b).2 List.mem_cons_self
        have h2 : a ∈ b :: k := (h.mem a).1 List.mem_cons_self
        have c1 : a.key ≤ b.key := by
          rcases List.mem_cons.1 h1 with e | e
          · rw [e]; exact Int.le_refl _
          · exact (List.pairwise_cons.1 ha).1 b e
        have c2 : b.key ≤ a.key := by
          rcases List.mem_cons.1 h2 with e | e
          · rw [e]; exact Int.le_refl _
          · exact (List.pairwise_cons.1 hk).1 a e
        omega
      have h0 := h a.key
      rw [List.filter_cons_of_pos (by simp), List.filter_cons_of_pos (by simp [hab])] at h0
      injection h0 with e1 _
      subst e1
      congr 1
      refine ih (fun c => ?_) (List.pairwise_cons.1 ha).2 (List.pairwise_cons.1 hk).2
      have hc := h c
      by_cases e : a.key = c
      · rw [List.filter_cons_of_pos (by simp [e]), List.filter_cons_of_pos (by simp [e])] at hc
        injection hc
      · rw [List.filter_cons_of_neg (by simpa using e), List.filter_cons_of_neg (by simpa using e)] at hc
        exact hc
theorem Asc.app {a b : List Fnd} (ha : Asc a) (hb : Asc b) (h : ∀ x ∈ a, ∀ y ∈ b, x.key ≤ y.key) : Asc (a ++ b) := List.pairwise_append.2 ⟨ha, hb, h⟩
theorem Asc.left {a b : List Fnd} (h : Asc (a ++ b)) : Asc a := (List.pairwise_append.1 h).1
theorem Asc.right {a b : List Fnd} (h : Asc (a ++ b)) : Asc b := (List.pairwise_append.1 h).2.1
theorem Asc.across {a b : List Fnd} (h : Asc (a ++ b)) : ∀ x ∈ a, ∀ y ∈ b, x.key ≤ y.key := (List.pairwise_append.1 h).2.2
theorem Asc.le {l : List Fnd} (h : Asc l) {i j : Nat} {x y : Fnd} (hi : l[i]? = some x) (hj : l[j]? = some y) (hij : i ≤ j) : x.key ≤ y.key := by
  by_cases e : i = j
  · subst e
    rw [hi] at hj
    cases hj
    exact Int.le_refl _
  · obtain ⟨h1, e1⟩ := List.getElem?_eq_some_iff.1 hi
    obtain ⟨h2, e2⟩ := List.getElem?_eq_some_iff.1 hj
    rw [← e1, ← e2]
    exact List.pairwise_iff_getElem.1 h i j h1 h2 (by omega)
end Go.Proofs.YtfmnaidhfgmemaaGreatDoor.Words

namespace Go.Proofs.YtfmnaidhfgmemaaGreatDoor
open Go.RowKit
open Words
def fdVal (x : Fnd) : Value := .agg #[.int .i64 x.block, .int .i64 x.leaf, .int .i64 x.page.kind, .int .i64 x.page.seq, .int .i64 x.page.tx, .int .i64 x.page.part, .int .i64 x.page.count, .string x.page.text]
def fdCells (x : Fnd) : List Value := [.int .i64 x.block, .int .i64 x.leaf, .int .i64 x.page.kind, .int .i64 x.page.seq, .int .i64 x.page.tx, .int .i64 x.page.part, .int .i64 x.page.count, .string x.page.text]
theorem infoFound : (Tryz.prog.info? 116).map (fun i => (i.zero, i.size, i.bytes)) = some (some (.agg #[.int .i64 0, .int .i64 0, .int .i64 0, .int .i64 0, .int .i64 0, .int .i64 0, .int .i64 0, .string ⟨#[]⟩]), 8, 72) := by kernel_rfl
def fcells (l : List Fnd) : List Value := l.flatMap fdCells
theorem fcells_snoc (l : List Fnd) (x : Fnd) : fcells l ++ fdCells x = fcells (l ++ [x]) := by simp [fcells]
theorem fd_one (x : Fnd) : ∀ u ∈ fdCells x, u.oneCell' = true := by
  intro u hu
  simp [fdCells] at hu
  rcases hu with h | h | h | h | h | h | h | h <;> subst h <;> rfl
theorem fcells_at : ∀ (l : List Fnd) (i : Nat) (x : Fnd), l[i]? = some x → ∀ j v, (fdCells x)[j]? = some v → (fcells l)[i * 8 + j]? = some v := by
  intro l
  induction l with
  | nil => intro i x h; simp at h
  | cons y l ih =>
    intro i x h j v hv
    have hj : j < 8 := (List.getElem?_eq_some_iff.1 hv).1
    have e : fcells (y :: l) = fdCells y ++ fcells l := by simp [fcells]
    rw [e]
    cases i with
    | zero =>
      simp at h
      subst h
      rw [List.getElem?_append_left (by show 0 * 8 + j < 8; omega)]
      simpa using hv
    | succ i =>
      rw [List.getElem?_cons_succ] at h
      rw [List.getElem?_append_right (by show 8 ≤ (i + 1) * 8 + j; omega)]
      have : (i + 1) * 8 + j - (fdCells y).length = i * 8 + j := by show (i + 1) * 8 + j - 8 = _; omega
      rw [this]
      exact ih i x h j v hv
end Go.Proofs.YtfmnaidhfgmemaaGreatDoor

namespace Go.Proofs.YtfmnaidhfgmemaaGreatDoor
open Go.RowKit
open Words
def FdRd (w : World) (a : Option Addr) (len : Nat) (ls : List Fnd) : Prop :=
  ls.length = len ∧ len ≤ maxLen ∧ (0 < len → ∃ b off, a = some ⟨b, off, none⟩ ∧ b < w.heap.size ∧ ∀ i t, ls[i]? = some t → ∀ j v, (fdCells t)[j]? = some v → w.cell? ⟨b, off + (i * 8 + j), none⟩ = some v)
theorem FdRd.below {w w' : World} {a : Option Addr} {len : Nat} {ls : List Fnd} (h : FdRd w a len ls) (hb : Below w.heap.size w w') : FdRd w' a len ls := by
  obtain ⟨h1, h2, h4⟩ := h
  refine ⟨h1, h2, fun h0 => ?_⟩
  obtain ⟨b, off, e, hl, hc⟩ := h4 h0
  have hs := hb.size
  exact ⟨b, off, e, by omega, fun i t ht j v hv => (hb.cell (show b < w.heap.size from hl)).trans (hc i t ht j v hv)⟩
theorem FdRd.at {w : World} {a : Option Addr} {len : Nat} {ls : List Fnd} (h : FdRd w a len ls) {k : Nat} {t : Fnd} (hk : ls[k]? = some t) :
    ∃ b off, a = some ⟨b, off, none⟩ ∧ b < w.heap.size ∧ w.cell? ⟨b, off + k * 8, none⟩ = some (.int .i64 t.block) ∧ w.cell? ⟨b, off + k * 8 + 1, none⟩ = some (.int .i64 t.leaf) ∧
      w.cell? ⟨b, off + k * 8 + 2, none⟩ = some (.int .i64 t.page.kind) ∧ w.cell? ⟨b, off + k * 8 + 2 + 1, none⟩ = some (.int .i64 t.page.seq) ∧ w.cell? ⟨b, off + k * 8 + 2 + 2, none⟩ = some (.int .i64 t.page.tx) ∧
      w.cell? ⟨b, off + k * 8 + 2 + 3, none⟩ = some (.int .i64 t.page.part) ∧ w.cell? ⟨b, off + k * 8 + 2 + 4, none⟩ = some (.int .i64 t.page.count) ∧ w.cell? ⟨b, off + k * 8 + 2 + 5, none⟩ = some (.string t.page.text) := by
  obtain ⟨h1, -, h4⟩ := h
  have hl := (List.getElem?_eq_some_iff.1 hk).1
  obtain ⟨b, off, e, hb, hc⟩ := h4 (by omega)
  have hc := hc k t hk
  refine ⟨b, off, e, hb, hc 0 _ rfl, ?_, ?_, ?_, ?_, ?_, ?_, ?_⟩
  · have := hc 1 _ rfl; rwa [← Nat.add_assoc] at this
  · have := hc 2 _ rfl; rwa [← Nat.add_assoc] at this
  · have := hc 3 _ rfl; rwa [← Nat.add_assoc] at this
  · have := hc 4 _ rfl; rwa [← Nat.add_assoc] at this
  · have := hc 5 _ rfl; rwa [← Nat.add_assoc] at this
  · have := hc 6 _ rfl; rwa [← Nat.add_assoc] at this
  · have := hc 7 _ rfl; rwa [← Nat.add_assoc] at this
end Go.Proofs.YtfmnaidhfgmemaaGreatDoor
