/-
  DigM; FdC; FdR; ReadM; IAt; IClone; Rd
-/
import Derived.Test.YtcjgjkejhkhknabGreatDoorMapG
import Derived.Test.YtcjgjkejhkhknabGreatDoorPk8
import Derived.Test.YtcjgjkejhkhknabGreatDoorPk15
import Derived.Test.YtcjgjkejhkhknabGreatDoorPk0
import Derived.Test.YtcjgjkejhkhknabGreatDoorPk7
import Derived.Test.YtcjgjkejhkhknabGreatDoorPk1
import Derived.Test.YtcjgjkejhkhknabGreatDoorPk2
import Derived.Test.YtcjgjkejhkhknabGreatDoorShelf
set_option maxHeartbeats 400000
set_option maxRecDepth 100000
namespace Go.Proofs.YtcjgjkejhkhknabGreatDoor
open Go.RowKit
open Words Pack
def kccells (l : List (Int × List UInt8)) : List Value := l.flatMap fun p => [.int .i64 p.1, .string (BA p.2)]
theorem kccells_snoc (l : List (Int × List UInt8)) (p : Int × List UInt8) : kccells l ++ [.int .i64 p.1, .string (BA p.2)] = kccells (l ++ [p]) := by simp [kccells]
theorem kccells_at : ∀ (l : List (Int × List UInt8)) (i : Nat) (p : Int × List UInt8), l[i]? = some p → (kccells l)[i * 2]? = some (.int .i64 p.1) ∧ (kccells l)[i * 2 + 1]? = some (.string (BA p.2))
 | [], i, p, h => by simp at h
 | a :: l, i, p, h => by
  have e : kccells (a :: l) = [Value.int .i64 a.1, .string (BA a.2)] ++ kccells l := by simp [kccells]
  rw [e]
  cases i with
  | zero =>
   simp at h
   subst h
   exact ⟨rfl, rfl⟩
  | succ i =>
   rw [List.getElem?_cons_succ] at h
   obtain ⟨h1, h2⟩ := kccells_at l i p h
   rw [List.getElem?_append_right (by simp; omega), List.getElem?_append_right (by simp; omega)]
   simp only [List.length_cons, List.length_nil]
   rw [show (i + 1) * 2 - (0 + 1 + 1) = i * 2 by omega, show (i + 1) * 2 + 1 - (0 + 1 + 1) = i * 2 + 1 by omega]
   exact ⟨h1, h2⟩
theorem infoKc : (Tryz.prog.info? 102).map (fun i => (i.zero, i.size, i.bytes)) = some (some (.agg #[.int .i64 0, .string ⟨#[]⟩]), 2, 24) := by kernel_rfl
theorem tyCD : Tryz.prog.underlying 62 = some (.map 9 100) := Tryz.underlying62
theorem zeroKc (w : World) : (zeroValue 100).run Tryz.prog w = .ok (.slice none 0 0) w := by kernel_rfl
abbrev Dg := List (List UInt8 × (Value × List (Int × List UInt8)))
def Dg.get (G : Dg) (d : List UInt8) : Value × List (Int × List UInt8) := (atG G d).getD (.slice none 0 0, [])
theorem atG_map {K α β : Type} [DecidableEq K] (f : α → β) (l : List (K × α)) (k : K) : atG (l.map fun p => (p.1, f p.2)) k = (atG l k).map f := by
 induction l with
 | nil => rfl
 | cons a l ih =>
  rw [List.map_cons, atG_cons, atG_cons, ih]
  by_cases h : a.1 = k <;> simp [h]
theorem newG_map {K α β : Type} [DecidableEq K] (f : α → β) (l : List (K × α)) (k : K) (v : α) : newG (l.map fun p => (p.1, f p.2)) k (f v) = (newG l k v).map fun p => (p.1, f p.2) := by
 unfold newG
 rw [atG_map]
 cases h : atG l k with
 | none => simp
 | some u =>
  simp only [Option.map_some, Option.isSome_some, if_true, List.map_map]
  apply List.map_congr_left
  intro p _
  simp only [Function.comp_apply]
  by_cases e : p.1 = k <;> simp [e]
theorem newG_mem {K α : Type} [DecidableEq K] {l : List (K × α)} {k : K} {v : α} {p : K × α} (h : p ∈ newG l k v) : p = (k, v) ∨ (p ∈ l ∧ p.1 ≠ k) := by
 unfold newG at h
 split at h
 ·obtain ⟨a, ha, e⟩ := List.mem_map.1 h
  by_cases q : a.1 = k
  ·rw [if_pos q] at e; exact .inl e.symm
  ·rw [if_neg q] at e; subst e; exact .inr ⟨ha, q⟩
 ·rename_i hn
  have hn : atG l k = none := by
   cases e : atG l k with
   | none => rfl
   | some u => rw [e] at hn; simp at hn
  rcases List.mem_append.1 h with h | h
  ·exact .inr ⟨h, atG_none.1 hn p h⟩
  ·rw [List.mem_singleton] at h; exact .inl h
theorem newG_pair {K α : Type} [DecidableEq K] {R : K × α → K × α → Prop} {l : List (K × α)} {k : K} {v : α} (hk : KeydG l) (h : l.Pairwise R) (h1 : ∀ p ∈ l, p.1 ≠ k → R (k, v) p ∧ R p (k, v)) : (newG l k v).Pairwise R := by
 unfold newG
 split
 ·rw [List.pairwise_map]
  have h2 := h.and hk
  refine List.Pairwise.imp_of_mem ?_ h2
  intro a b ha hb ⟨hab, hne⟩
  by_cases e1 : a.1 = k <;> by_cases e2 : b.1 = k
  ·exact absurd (e1.trans e2.symm) hne
  ·rw [if_pos e1, if_neg e2]; exact (h1 b hb e2).1
  ·rw [if_neg e1, if_pos e2]; exact (h1 a ha e1).2
  ·rw [if_neg e1, if_neg e2]; exact hab
 ·rename_i hn
  have hn : atG l k = none := by
   cases e : atG l k with
   | none => rfl
   | some u => rw [e] at hn; simp at hn
  refine List.pairwise_append.2 ⟨h, List.pairwise_singleton _ _, ?_⟩
  intro a ha b hb
  rw [List.mem_singleton] at hb
  subst hb
  exact (h1 a ha (atG_none.1 hn a ha)).2
def DM (lo : Nat) (W : World) (B : Nat) (G : Dg) : Prop :=
 lo ≤ B ∧ MapG enS W B (G.map fun g => (g.1, g.2.1)) ∧ (∀ g ∈ G, W.ownsRow lo 102 2 g.2.1 g.2.2.length (kccells g.2.2)) ∧ G.Pairwise (fun a b => ∀ q, a.2.1.ownBlock = some q → b.2.1.ownBlock ≠ some q)
theorem DM.keyd {lo : Nat} {W : World} {B : Nat} {G : Dg} (h : DM lo W B G) : KeydG G := by
 have := h.2.1.1
 unfold KeydG at this ⊢
 rw [List.pairwise_map] at this
 exact this
theorem DM.below {lo : Nat} {W W' : World} {B : Nat} {G : Dg} (h : DM lo W B G) (b : Below W.heap.size W W') : DM lo W' B G :=
 ⟨h.1, h.2.1.below b, fun g hg => own_below (h.2.2.1 g hg) b, h.2.2.2⟩
theorem DM.made (w : World) : DM w.heap.size (w.alloc (.map #[] 0)) w.heap.size [] := ⟨Nat.le_refl _, MapG.made w, (fun g h => by cases h), List.Pairwise.nil⟩
theorem DM.look {lo : Nat} {W : World} {B : Nat} {G : Dg} (h : DM lo W B G) (d : List UInt8) : (Instr.lookup 62 (.map (some B)) (.string ⟨d.toArray⟩) false).run Tryz.prog W = .ok (G.get d).1 W := by
 have := h.2.1.look tyCD keysS (zeroKc W) d false
 rw [atG_map (fun v : Value × List (Int × List UInt8) => v.1)] at this
 rw [show (Value.string ⟨d.toArray⟩) = enS d from rfl, this]
 unfold Dg.get
 cases atG G d <;> rfl
theorem DM.own {lo : Nat} {W : World} {B : Nat} {G : Dg} (h : DM lo W B G) (d : List UInt8) : W.ownsRow lo 102 2 (G.get d).1 (G.get d).2.length (kccells (G.get d).2) := by
 unfold Dg.get
 cases e : atG G d with
 | none => exact World.ownsRow_nil _ _ _ _
 | some u => exact h.2.2.1 _ (atG_mem e)
theorem own_cells {W : World} {lo : Nat} {t : TypeId} {v : Value} {n s : Nat} {xs : List Value} (h : W.ownsRow lo t s v n xs) {q : Nat} (hq : v.ownBlock = some q) : ∃ cs z, W.heap[q]? = some (.cells cs t z) := by
 rcases h.2 with ⟨rfl, -⟩ | ⟨g, cap, cur, rfl, -, h4, -⟩
 ·cases hq
 ·cases hq
  exact ⟨_, _, h4⟩
theorem DM.put {lo : Nat} {W W2 : World} {B : Nat} {G : Dg} (h : DM lo W B G) (d : List UInt8) {v' : Value} {xs : List (Int × List UInt8)} (hg : W.grownBy W2 (G.get d).1.ownBlock) (ho : W2.ownsRow lo 102 2 v' xs.length (kccells xs)) (hv : v'.ownBlock = (G.get d).1.ownBlock ∨ ∃ q, v'.ownBlock = some q ∧ W.heap.size ≤ q) :
 ∃ W3, (Instr.mapUpdate 62 (.map (some B)) (.string ⟨d.toArray⟩) v').run Tryz.prog W2 = .ok () W3 ∧ DM lo W3 B (newG G d (v', xs)) ∧ W2.grownBy W3 (some B) := by
 have hB : some B ≠ (G.get d).1.ownBlock := fun e => by
  obtain ⟨cs, z, q⟩ := own_cells (h.own d) e.symm
  exact h.2.1.not_cells q
 have hm := h.2.1.grown hg hB
 obtain ⟨W3, e1, e2, e3, -⟩ := hm.new tyCD keysS d v'
 rw [newG_map (fun v : Value × List (Int × List UInt8) => v.1) G d (v', xs)] at e2
 have far : ∀ g ∈ G, g.1 ≠ d → ∀ q, g.2.1.ownBlock = some q → (G.get d).1.ownBlock ≠ some q := by
  intro g hgm hne q hq e
  unfold Dg.get at e
  cases ha : atG G d with
  | none => rw [ha] at e; cases e
  | some u =>
   rw [ha] at e
   have hu := atG_mem ha
   obtain ⟨i, hi, ei⟩ := List.getElem_of_mem hgm
   obtain ⟨j, hj, ej⟩ := List.getElem_of_mem hu
   have hij : i ≠ j := fun q => by subst q; rw [ei] at ej; exact hne (by rw [ej])
   rcases Nat.lt_or_gt_of_ne hij with hlt | hlt
   ·have := List.pairwise_iff_getElem.1 h.2.2.2 i j hi hj hlt q (by rw [ei]; exact hq)
    rw [ej] at this
    exact this e
   ·have := List.pairwise_iff_getElem.1 h.2.2.2 j i hj hi hlt q (by rw [ej]; exact e)
    rw [ei] at this
    exact this hq
 have nb : ∀ {X : World} {u : Value} {n : Nat} {ys : List Value}, X.ownsRow lo 102 2 u n ys → MapG enS X B (G.map fun g => (g.1, g.2.1)) → u.ownBlock ≠ some B := by
  intro X u n ys hu hmx e
  obtain ⟨cs, z, q⟩ := own_cells hu e
  exact hmx.not_cells q
 refine ⟨W3, e1, ⟨h.1, e2, ?_, ?_⟩, e3⟩
 ·intro g hgm
  rcases newG_mem hgm with rfl | ⟨hgm, hne⟩
  ·exact ho.kept e3 (.inr (nb ho hm))
  ·have h0 : g.2.1.ownBlock = none ∨ g.2.1.ownBlock ≠ (G.get d).1.ownBlock := by
    cases eo : g.2.1.ownBlock with
    | none => exact .inl rfl
    | some q => exact .inr (fun e => far g hgm hne q eo e.symm)
   have h1 := (h.2.2.1 g hgm).kept hg h0
   exact h1.kept e3 (.inr (nb h1 hm))
 ·refine newG_pair h.keyd h.2.2.2 ?_
  intro p hp hne
  have hlt : ∀ q, p.2.1.ownBlock = some q → q < W.heap.size := fun q hq => ((h.2.2.1 p hp).lt q hq).2
  constructor
  ·intro q hq e
   rcases hv with hv | ⟨z, hz, hz2⟩
   ·rw [hv] at hq; exact far p hp hne q e hq
   ·simp only at hq; rw [hz] at hq; cases hq; have := hlt _ e; omega
  ·intro q hq e
   rcases hv with hv | ⟨z, hz, hz2⟩
   ·simp only at e; rw [hv] at e; exact far p hp hne q hq e
   ·simp only at e; rw [hz] at e; cases e; have := hlt _ hq; omega
def DK (dg : List UInt8 → List UInt8) (G : Dg) (kept : List (Int × List UInt8)) : Prop := ∀ d, (G.get d).2 = kept.filter fun p => decide (dg p.2 = d)
theorem DK.put {dg : List UInt8 → List UInt8} {G : Dg} {kept : List (Int × List UInt8)} (h : DK dg G kept) (p : Int × List UInt8) (v' : Value) : DK dg (newG G (dg p.2) (v', (G.get (dg p.2)).2 ++ [p])) (kept ++ [p]) := by
 intro d
 unfold Dg.get
 rw [atG_new, List.filter_append]
 by_cases e : d = dg p.2
 ·subst e
  rw [if_pos rfl]
  have := h (dg p.2)
  unfold Dg.get at this
  simp only [Option.getD_some]
  rw [this]
  simp
 ·rw [if_neg e]
  have := h d
  unfold Dg.get at this
  rw [this]
  have e' : ¬ dg p.2 = d := fun q => e q.symm
  simp [e']
theorem DK.made (dg : List UInt8 → List UInt8) : DK dg [] [] := fun _ => rfl
end Go.Proofs.YtcjgjkejhkhknabGreatDoor
namespace Go.Proofs.YtcjgjkejhkhknabGreatDoor
open Go.RowKit
open Words
def fdVal (x : Fnd) : Value := .agg #[.int .i64 x.block, .int .i64 x.leaf, .int .i64 x.page.kind, .int .i64 x.page.seq, .int .i64 x.page.tx, .int .i64 x.page.part, .int .i64 x.page.count, .string x.page.text]
def fdCells (x : Fnd) : List Value := [.int .i64 x.block, .int .i64 x.leaf, .int .i64 x.page.kind, .int .i64 x.page.seq, .int .i64 x.page.tx, .int .i64 x.page.part, .int .i64 x.page.count, .string x.page.text]
theorem infoFound : (Tryz.prog.info? 77).map (fun i => (i.zero, i.size, i.bytes)) = some (some (.agg #[.int .i64 0, .int .i64 0, .int .i64 0, .int .i64 0, .int .i64 0, .int .i64 0, .int .i64 0, .string ⟨#[]⟩]), 8, 72) := by kernel_rfl
def fcells (l : List Fnd) : List Value := l.flatMap fdCells
theorem fcells_snoc (l : List Fnd) (x : Fnd) : fcells l ++ fdCells x = fcells (l ++ [x]) := by simp [fcells]
theorem fd_one (x : Fnd) : ∀ u ∈ fdCells x, u.oneCell' = true := by
 intro u hu
 simp [fdCells] at hu
 rcases hu with h | h | h | h | h | h | h | h <;> subst h <;> rfl
theorem fcells_at : ∀ (l : List Fnd) (i : Nat) (x : Fnd), l[i]? = some x → ∀ j v, (fdCells x)[j]? = some v → (fcells l)[i * 8 + j]? = some v := by
 intro l
 induction l with
 | nil => intro i x h; simp at h
 | cons y l ih =>
  intro i x h j v hv
  have hj : j < 8 := (List.getElem?_eq_some_iff.1 hv).1
  have e : fcells (y :: l) = fdCells y ++ fcells l := by simp [fcells]
  rw [e]
  cases i with
  | zero =>
   simp at h
   subst h
   rw [List.getElem?_append_left (by show 0 * 8 + j < 8; omega)]
   simpa using hv
  | succ i =>
   rw [List.getElem?_cons_succ] at h
   rw [List.getElem?_append_right (by show 8 ≤ (i + 1) * 8 + j; omega)]
   have : (i + 1) * 8 + j - (fdCells y).length = i * 8 + j := by show (i + 1) * 8 + j - 8 = _; omega
   rw [this]
   exact ih i x h j v hv
def FdRd (w : World) (a : Option Addr) (len : Nat) (ls : List Fnd) : Prop :=
 ls.length = len ∧ len ≤ maxLen ∧ (0 < len → ∃ b off, a = some ⟨b, off, none⟩ ∧ b < w.heap.size ∧ ∀ i t, ls[i]? = some t → ∀ j v, (fdCells t)[j]? = some v → w.cell? ⟨b, off + (i * 8 + j), none⟩ = some v)
theorem FdRd.below {w w' : World} {a : Option Addr} {len : Nat} {ls : List Fnd} (h : FdRd w a len ls) (hb : Below w.heap.size w w') : FdRd w' a len ls := by
 obtain ⟨h1, h2, h4⟩ := h
 refine ⟨h1, h2, fun h0 => ?_⟩
 obtain ⟨b, off, e, hl, hc⟩ := h4 h0
 have hs := hb.size
 exact ⟨b, off, e, by omega, fun i t ht j v hv => (hb.cell (show b < w.heap.size from hl)).trans (hc i t ht j v hv)⟩
theorem FdRd.at {w : World} {a : Option Addr} {len : Nat} {ls : List Fnd} (h : FdRd w a len ls) {k : Nat} {t : Fnd} (hk : ls[k]? = some t) :
 ∃ b off, a = some ⟨b, off, none⟩ ∧ b < w.heap.size ∧ w.cell? ⟨b, off + k * 8, none⟩ = some (.int .i64 t.block) ∧ w.cell? ⟨b, off + k * 8 + 1, none⟩ = some (.int .i64 t.leaf) ∧
  w.cell? ⟨b, off + k * 8 + 2, none⟩ = some (.int .i64 t.page.kind) ∧ w.cell? ⟨b, off + k * 8 + 2 + 1, none⟩ = some (.int .i64 t.page.seq) ∧ w.cell? ⟨b, off + k * 8 + 2 + 2, none⟩ = some (.int .i64 t.page.tx) ∧
  w.cell? ⟨b, off + k * 8 + 2 + 3, none⟩ = some (.int .i64 t.page.part) ∧ w.cell? ⟨b, off + k * 8 + 2 + 4, none⟩ = some (.int .i64 t.page.count) ∧ w.cell? ⟨b, off + k * 8 + 2 + 5, none⟩ = some (.string t.page.text) := by
 obtain ⟨h1, -, h4⟩ := h
 have hl := (List.getElem?_eq_some_iff.1 hk).1
 obtain ⟨b, off, e, hb, hc⟩ := h4 (by omega)
 have hc := hc k t hk
 refine ⟨b, off, e, hb, hc 0 _ rfl, ?_, ?_, ?_, ?_, ?_, ?_, ?_⟩
 ·have := hc 1 _ rfl; rwa [← Nat.add_assoc] at this
 ·have := hc 2 _ rfl; rwa [← Nat.add_assoc] at this
 ·have := hc 3 _ rfl; rwa [← Nat.add_assoc] at this
 ·have := hc 4 _ rfl; rwa [← Nat.add_assoc] at this
 ·have := hc 5 _ rfl; rwa [← Nat.add_assoc] at this
 ·have := hc 6 _ rfl; rwa [← Nat.add_assoc] at this
 ·have := hc 7 _ rfl; rwa [← Nat.add_assoc] at this
end Go.Proofs.YtcjgjkejhkhknabGreatDoor
namespace Go.Proofs.YtcjgjkejhkhknabGreatDoor
theorem read_out {bs : List Bk} {b leaf : Int} (h : ¬ (0 ≤ b ∧ b ≤ (bs.length : Int) - 1)) : readF bs b leaf = (⟨#[]⟩, false) := by
 unfold readF
 cases hb : bs[b.toNat]? with
 | none => rfl
 | some r =>
  have := (List.getElem?_eq_some_iff.1 hb).1
  simp only
  cases hl : r.2.2[leaf.toNat]? with
  | none => rfl
  | some t => exact if_neg (fun hh => h ⟨hh.1, by omega⟩)
theorem read_leaf_out {bs : List Bk} {k : Nat} {r : Bk} {leaf : Int} (hr : bs[k]? = some r) (h : ¬ (0 ≤ leaf ∧ leaf ≤ (r.2.2.length : Int) - 1)) : readF bs (k : Int) leaf = (⟨#[]⟩, false) := by
 unfold readF
 rw [Int.toNat_natCast, hr]
 simp only
 cases hl : r.2.2[leaf.toNat]? with
 | none => rfl
 | some t =>
  have := (List.getElem?_eq_some_iff.1 hl).1
  exact if_neg (fun hh => h ⟨hh.2.1, by omega⟩)
theorem read_in {bs : List Bk} {k j : Nat} {r : Bk} {t : Int × ByteArray} (hr : bs[k]? = some r) (ht : r.2.2[j]? = some t) : (t.1 = 1 → readF bs (k : Int) (j : Int) = (t.2, true)) ∧ (t.1 ≠ 1 → readF bs (k : Int) (j : Int) = (⟨#[]⟩, false)) := by
 unfold readF
 rw [Int.toNat_natCast, hr]
 simp only
 rw [Int.toNat_natCast, ht]
 exact ⟨fun h => if_pos ⟨by omega, by omega, h⟩, fun h => if_neg (fun hh => h hh.2.2)⟩
end Go.Proofs.YtcjgjkejhkhknabGreatDoor
namespace Go.Proofs.YtcjgjkejhkhknabGreatDoor
open Go.RowKit
theorem iat_in (g n cap k : Nat) (w : World) (_hn : n ≤ 1048576) (hk : k < n) :
 Calls Tryz.prog 97 #[.agg #[.slice (some ⟨g, 0, none⟩) n cap], .int .i64 k] w fun e w' => e = .returned (.pointer (some ⟨g, k * 3, none⟩)) ∧ Below w.heap.size w w' := by
 have HB := hide ((Below.refl w.heap.size w).alloc (Nat.le_refl _) (.cells #[.slice (some ⟨g, 0, none⟩) n cap] 30))
 have h1 : (0 : Int) ≤ k := by omega
 have h2 : (k : Int) < n := by omega
 go_enter Tryz.func97, Tryz.ntmps97
 go_wp2
 go_ret
 exact ⟨rfl, HB.out⟩
theorem iat_out (ad : Option Addr) (n cap : Nat) (b : Int) (w : World) (_hn : n ≤ 1048576) (hb : ¬ (0 ≤ b ∧ b ≤ (n : Int) - 1)) :
 Calls Tryz.prog 97 #[.agg #[.slice ad n cap], .int .i64 b] w fun e w' => e = .returned (.pointer none) ∧ Below w.heap.size w w' := by
 have HB := hide ((Below.refl w.heap.size w).alloc (Nat.le_refl _) (.cells #[.slice ad n cap] 30))
 by_cases h0 : b < 0
 ·go_enter Tryz.func97, Tryz.ntmps97
  go_wp2
  go_ret
  exact ⟨rfl, HB.out⟩
 ·have h1 : (n : Int) ≤ b := by omega
  clear hb
  go_enter Tryz.func97, Tryz.ntmps97
  go_wp2
  go_ret
  exact ⟨rfl, HB.out⟩
theorem ilat_off (g o gl lo n cap k : Nat) (w : World) (_hn : n ≤ 1048576) (hk : k < n) (hc : w.cell? ⟨g, o + 2, none⟩ = some (.slice (some ⟨gl, lo, none⟩) n cap)) :
 Calls Tryz.prog 98 #[.pointer (some ⟨g, o, none⟩), .int .i64 k] w fun e w' => e = .returned (.pointer (some ⟨gl, lo + k * 2, none⟩)) ∧ w' = w := by
 have h1 : (0 : Int) ≤ k := by omega
 have h2 : (k : Int) < n := by omega
 go_enter Tryz.func98, Tryz.ntmps98
 go_wp2
 go_ret
 exact ⟨rfl, rfl⟩
theorem ilat_out (g o n cap : Nat) (ad : Option Addr) (b : Int) (w : World) (_hn : n ≤ 1048576) (hb : ¬ (0 ≤ b ∧ b ≤ (n : Int) - 1)) (hc : w.cell? ⟨g, o + 2, none⟩ = some (.slice ad n cap)) :
 Calls Tryz.prog 98 #[.pointer (some ⟨g, o, none⟩), .int .i64 b] w fun e w' => e = .returned (.pointer none) ∧ w' = w := by
 by_cases h0 : b < 0
 ·go_enter Tryz.func98, Tryz.ntmps98
  go_wp2
  go_ret
  exact ⟨rfl, rfl⟩
 ·have h1 : (n : Int) ≤ b := by omega
  clear hb
  go_enter Tryz.func98, Tryz.ntmps98
  go_wp2
  go_ret
  exact ⟨rfl, rfl⟩
theorem fclone_any (s : ByteArray) (w : World) (hs : s.size ≤ 1048576) :
 Calls Tryz.prog 99 #[.string s] w fun e w' => e = .returned (.string s) ∧ Below w.heap.size w w' := by
 go_enter Tryz.func99, Tryz.ntmps99
 go_wp2_with fail
 refine (Tryz.stringslite_Clone s _ (by omega)).mono ?_
 rintro e w' ⟨rfl, hb⟩
 go_wp2
 go_ret
 exact ⟨rfl, hb⟩
def LeafRd (w : World) (u : Value) (ls : List (Int × ByteArray)) : Prop :=
 ∃ ld lc, u = .slice ld ls.length lc ∧ (ld = none → lc = 0) ∧ ∀ j t, ls[j]? = some t → ∃ gl o, ld = some ⟨gl, o, none⟩ ∧ w.cell? ⟨gl, o + j * 2, none⟩ = some (.int .i64 t.1) ∧ w.cell? ⟨gl, o + j * 2 + 1, none⟩ = some (.string t.2)
def FlashRd (w : World) (v : Value) (rs : List Rw) : Prop :=
 ∃ vd vcap, v = .slice vd rs.length vcap ∧ (vd = none → vcap = 0) ∧ ∀ k r, rs[k]? = some r → ∃ g, vd = some ⟨g, 0, none⟩ ∧ (w.cell? ⟨g, k * 3, none⟩ = some (.bool r.1) ∧ w.cell? ⟨g, k * 3 + 1, none⟩ = some (.int .i64 r.2.1) ∧ w.cell? ⟨g, k * 3 + 2, none⟩ = some r.2.2.1) ∧ LeafRd w r.2.2.1 r.2.2.2
theorem LeafRd.below {w w' : World} {u : Value} {ls : List (Int × ByteArray)} (h : LeafRd w u ls) (hb : Below w.heap.size w w') : LeafRd w' u ls := by
 obtain ⟨ld, lc, e, en, h⟩ := h
 refine ⟨ld, lc, e, en, fun j t ht => ?_⟩
 obtain ⟨gl, o, e2, c1, c2⟩ := h j t ht
 exact ⟨gl, o, e2, (hb.cell (World.block_lt_of_cell? w _ c1)).trans c1, (hb.cell (World.block_lt_of_cell? w _ c2)).trans c2⟩
theorem FlashRd.below {w w' : World} {v : Value} {rs : List Rw} (h : FlashRd w v rs) (hb : Below w.heap.size w w') : FlashRd w' v rs := by
 obtain ⟨vd, vcap, e, en, h⟩ := h
 refine ⟨vd, vcap, e, en, fun k r hr => ?_⟩
 obtain ⟨g, e2, ⟨c1, c2, c3⟩, hl⟩ := h k r hr
 exact ⟨g, e2, ⟨(hb.cell (World.block_lt_of_cell? w _ c1)).trans c1, (hb.cell (World.block_lt_of_cell? w _ c2)).trans c2, (hb.cell (World.block_lt_of_cell? w _ c3)).trans c3⟩, hl.below hb⟩
theorem FlashRd.at {w : World} {vd : Option Addr} {n vcap k : Nat} {rs : List Rw} {r : Rw} (h : FlashRd w (.slice vd n vcap) rs) (hr : rs[k]? = some r) : ∃ g, vd = some ⟨g, 0, none⟩ ∧ (w.cell? ⟨g, k * 3, none⟩ = some (.bool r.1) ∧ w.cell? ⟨g, k * 3 + 1, none⟩ = some (.int .i64 r.2.1) ∧ w.cell? ⟨g, k * 3 + 2, none⟩ = some r.2.2.1) ∧ LeafRd w r.2.2.1 r.2.2.2 := by
 obtain ⟨vd', vcap', e, -, h⟩ := h
 injection e with e1 e2 e3
 subst e1
 exact h k r hr
theorem own_nil {w : World} {B : Nat} {e : TypeId} {size n cap m : Nat} {a : Option Addr} {xs : List Value} (h : w.ownsRow B e size (.slice a m cap) n xs) : a = none → cap = 0 := by
 rintro rfl
 rcases h.2 with ⟨h, -⟩ | ⟨g, cap', cur, h, -⟩
 ·injection h
 ·cases h
theorem LeafIn.rd {w : World} {lo hi : Nat} {u : Value} {ls : List (Int × ByteArray)} (h : LeafIn w lo hi u ls) : LeafRd w u ls := by
 obtain ⟨ld, lc, rfl, -, -, l3⟩ := frow_form h.1
 refine ⟨ld, lc, rfl, own_nil h.1, fun j t ht => ?_⟩
 obtain ⟨gl, rfl, -, -⟩ := l3 (by have := (List.getElem?_eq_some_iff.1 ht).1; omega)
 obtain ⟨d1, d2⟩ := lown_cells h.1 ht
 exact ⟨gl, 0, rfl, by rw [Nat.zero_add]; exact d1, by rw [Nat.zero_add]; exact d2⟩
theorem FlashIn.rd {w : World} {lo hi : Nat} {v : Value} {rs : List Rw} (h : FlashIn w lo hi v rs) : FlashRd w v rs := by
 obtain ⟨vd, vcap, rfl, -, -, a3⟩ := frow_form h.1
 refine ⟨vd, vcap, rfl, own_nil h.1, fun k r hr => ?_⟩
 obtain ⟨g, rfl, -, -⟩ := a3 (by have := (List.getElem?_eq_some_iff.1 hr).1; omega)
 exact ⟨g, rfl, kown_cells (k := k) (t := cellOf r) h.1 (by rw [List.getElem?_map, hr]; rfl), (h.2.2.1 r (List.mem_of_getElem? hr)).rd⟩
end Go.Proofs.YtcjgjkejhkhknabGreatDoor
