/-
  FEq; LawB; Fla; LawT; KnEq
-/
import Derived.Test.YtcjgjkejhkhknabGreatDoorPq15
import Derived.Test.YtcjgjkejhkhknabGreatDoorPq17
import Derived.Test.YtcjgjkejhkhknabGreatDoorPq0
import Derived.Test.YtcjgjkejhkhknabGreatDoorPq16
import Derived.Test.YtcjgjkejhkhknabGreatDoorPq1
import Derived.Deep.RegionHeld3
/-
  The walks of the law's own helpers over flashes: equal.
-/
namespace Go.Proofs.YtcjgjkejhkhknabGreatDoor
open Go.RowKit

set_option maxHeartbeats 400000 in
theorem eqLeaf_any (a : Int) (t : ByteArray) (w : World) :
    Calls Tryz.prog 108 #[.agg #[.int .i64 a, .string t], .agg #[.int .i64 a, .string t]] w fun e w' => e = .returned (.bool true) ∧ Below w.heap.size w w' := by
  have e1 : (a != a) = false := by simp
  go_enter Tryz.func108, Tryz.ntmps108
  go_wp2
  go_ret
  exact ⟨rfl, ((Below.refl _ _).alloc (Nat.le_refl _) _).alloc (by simp) _⟩

set_option maxHeartbeats 400000 in
set_option maxRecDepth 100000 in
theorem eqLeafS_any (a b : Value) (ls : List (Int × ByteArray)) (B1 B2 : Nat) (w : World) (hl : ls.length ≤ 1048576) (ha : w.ownsRow B1 122 2 a ls.length (lcells ls)) (hb : w.ownsRow B2 122 2 b ls.length (lcells ls)) :
    Calls Tryz.prog 76 #[a, b] w fun e w' => e = .returned (.bool true) ∧ Below w.heap.size w w' := by
  obtain ⟨ad, capa, rfl, a1, a2, a3⟩ := frow_form ha
  obtain ⟨bd, capb, rfl, b1, b2, b3⟩ := frow_form hb
  unfold maxLen at a2 b2
  have A3 := hide a3
  have B3 := hide b3
  have HA := hide ha
  have HB := hide hb
  clear a3 b3 ha hb
  go_enter Tryz.func76, Tryz.ntmps76
  go_wp2
  go_loopw [5] (fun iv wr => ∃ k : Nat, k ≤ ls.length ∧ iv = .int .i64 k ∧ Hid (Below w.heap.size w wr)) (fun iv _ => ls.length - (intOf iv).toNat)
  case atStart => exact ⟨0, Nat.zero_le _, rfl, Below.refl _ _⟩
  case round =>
    obtain ⟨k, hk, rfl, HW⟩ := hrel
    by_cases hlt : (k : Int) < ls.length
    · obtain ⟨ga, rfl, _, hga⟩ := A3.out (by omega)
      obtain ⟨gb, rfl, _, hgb⟩ := B3.out (by omega)
      have hkl : k < ls.length := by omega
      obtain ⟨x, t, ht⟩ : ∃ x t, ls[k]? = some (x, t) := ⟨ls[k].1, ls[k].2, List.getElem?_eq_getElem hkl⟩
      obtain ⟨c1, c2⟩ := lown_cells (own_below HA.out HW.out) ht
      obtain ⟨d1, d2⟩ := lown_cells (own_below HB.out HW.out) ht
      simp only at c1 c2 d1 d2
      have k0 : (0 : Int) ≤ k := by omega
      have hga2 : ga < wr.heap.size := Nat.lt_of_lt_of_le hga HW.out.size
      have hgb2 : gb < wr.heap.size := Nat.lt_of_lt_of_le hgb HW.out.size
      clear ht
      go_wp2
      go_region_held3 (fun w' => w'.cell? ⟨ga, k * 2, none⟩ = some (.int .i64 x) ∧ w'.cell? ⟨ga, k * 2 + 1, none⟩ = some (.string t) ∧ w'.cell? ⟨gb, k * 2, none⟩ = some (.int .i64 x) ∧ w'.cell? ⟨gb, k * 2 + 1, none⟩ = some (.string t)) (first | go_keep | exact ⟨(hb1.cell (show ga < wr.heap.size from hga2)).trans c1, (hb1.cell (show ga < wr.heap.size from hga2)).trans c2, (hb1.cell (show gb < wr.heap.size from hgb2)).trans d1, (hb1.cell (show gb < wr.heap.size from hgb2)).trans d2⟩) ((go_at_call 108; refine (eqLeaf_any x t _).mono ?_; rintro e w1 ⟨rfl, hb1⟩))
      have HW2 := hide (HW.out.drew.trans (hb1.mono (by have := HW.out.size; exact this)))
      clear hb1 HW c1 c2 d1 d2
      go_wp2
      go_roundw
      case rel => exact ⟨k + 1, by omega, by go_num, HW2⟩
      case measure => simp [intOf]; omega
    · go_wp2
      go_ret
      exact ⟨rfl, HW.out⟩

set_option maxHeartbeats 400000 in
set_option maxRecDepth 100000 in
theorem eqBlock_any (x : Bool) (y : Int) (a b : Value) (ls : List (Int × ByteArray)) (B1 B2 : Nat) (w : World) (hl : ls.length ≤ 1048576) (ha : w.ownsRow B1 122 2 a ls.length (lcells ls)) (hb : w.ownsRow B2 122 2 b ls.length (lcells ls)) :
    Calls Tryz.prog 48 #[.agg #[.bool x, .int .i64 y, a], .agg #[.bool x, .int .i64 y, b]] w fun e w' => e = .returned (.bool true) ∧ Below w.heap.size w w' := by
  have e1 : (y != y) = false := by simp
  have e2 : (x != x) = false := by simp
  obtain ⟨ad, capa, rfl, -⟩ := frow_form ha
  obtain ⟨bd, capb, rfl, -⟩ := frow_form hb
  have HA := hide ((ha.alloc (.cells #[.bool x, .int .i64 y, .slice ad ls.length capa] 89)).alloc (.cells #[.bool x, .int .i64 y, .slice bd ls.length capb] 89))
  have HB := hide ((hb.alloc (.cells #[.bool x, .int .i64 y, .slice ad ls.length capa] 89)).alloc (.cells #[.bool x, .int .i64 y, .slice bd ls.length capb] 89))
  have HW := hide (((Below.refl w.heap.size w).alloc (Nat.le_refl _) (.cells #[.bool x, .int .i64 y, .slice ad ls.length capa] 89)).alloc (by simp) (.cells #[.bool x, .int .i64 y, .slice bd ls.length capb] 89))
  clear ha hb
  go_enter Tryz.func48, Tryz.ntmps48
  go_wp2_with fail
  refine (eqLeafS_any _ _ ls _ _ _ hl HA.out HB.out).mono ?_
  rintro e w1 ⟨rfl, hb1⟩
  have HW1 := hide (HW.out.trans (hb1.mono HW.out.size))
  clear hb1
  go_wp2
  go_ret
  exact ⟨rfl, HW1.out⟩

theorem tell_at {rs ss : List Rw} (h : rs.map tellOf = ss.map tellOf) (k : Nat) (r : Rw) (hr : rs[k]? = some r) : ∃ s, ss[k]? = some s ∧ tellOf r = tellOf s := by
  have h1 := congrArg (fun l : List Bk => l[k]?) h
  simp only [List.getElem?_map, hr, Option.map_some] at h1
  cases hs : ss[k]? with
  | none => rw [hs] at h1; cases h1
  | some s =>
    rw [hs] at h1
    exact ⟨s, rfl, by simpa using h1⟩

set_option maxHeartbeats 400000 in
set_option maxRecDepth 100000 in
theorem eqBlockS_any (a b : Value) (rs ss : List Rw) (l1 h1 l2 h2 : Nat) (w : World) (hl : rs.length ≤ 1048576) (hll : ∀ r ∈ rs, r.2.2.2.length ≤ 1048576) (ha : FlashIn w l1 h1 a rs) (hb : FlashIn w l2 h2 b ss) (hh1 : h1 ≤ w.heap.size) (hh2 : h2 ≤ w.heap.size) (he : rs.map tellOf = ss.map tellOf) :
    Calls Tryz.prog 25 #[a, b] w fun e w' => e = .returned (.bool true) ∧ Below w.heap.size w w' := by
  have hlen : ss.length = rs.length := by have := congrArg List.length he; simpa using this.symm
  have ha1 := ha.1
  have hb1 := hb.1
  rw [hlen] at hb1
  obtain ⟨ad, capa, rfl, a1, a2, a3⟩ := frow_form ha1
  obtain ⟨bd, capb, rfl, b1, b2, b3⟩ := frow_form hb1
  unfold maxLen at a2 b2
  have A3 := hide a3
  have B3 := hide b3
  have HA := hide ha
  have HB := hide hb
  have HE := hide he
  have HLL := hide hll
  have HLEN := hide hlen
  clear a3 b3 ha hb ha1 hb1 he hll hlen
  go_enter Tryz.func25, Tryz.ntmps25
  go_wp2
  go_loopw [5] (fun iv wr => ∃ k : Nat, k ≤ rs.length ∧ iv = .int .i64 k ∧ Hid (Below w.heap.size w wr)) (fun iv _ => rs.length - (intOf iv).toNat)
  case atStart => exact ⟨0, Nat.zero_le _, rfl, Below.refl _ _⟩
  case round =>
    obtain ⟨k, hk, rfl, HW⟩ := hrel
    by_cases hlt : (k : Int) < rs.length
    · obtain ⟨ga, rfl, _, hga⟩ := A3.out (by omega)
      obtain ⟨gb, rfl, _, hgb⟩ := B3.out (by omega)
      have hkl : k < rs.length := by omega
      obtain ⟨x, y, u, ls, hr⟩ : ∃ x y u ls, rs[k]? = some (x, y, u, ls) := ⟨rs[k].1, rs[k].2.1, rs[k].2.2.1, rs[k].2.2.2, List.getElem?_eq_getElem hkl⟩
      obtain ⟨⟨x', y', u', ls'⟩, hs, hts⟩ := tell_at HE.out k _ hr
      simp only [tellOf, Prod.mk.injEq] at hts
      obtain ⟨rfl, rfl, rfl⟩ := hts
      have FA := HA.out.below HW.out hh1
      have FB := HB.out.below HW.out hh2
      have FB1 := FB.1
      rw [HLEN.out] at FB1
      obtain ⟨c1, c2, c3⟩ := kown_cells (t := (x, y, u)) FA.1 (by rw [List.getElem?_map, hr]; rfl)
      obtain ⟨d1, d2, d3⟩ := kown_cells (t := (x, y, u')) FB1 (by rw [List.getElem?_map, hs]; rfl)
      simp only at c1 c2 c3 d1 d2 d3
      have LA := (FA.2.2.1 _ (List.mem_of_getElem? hr)).1
      have LB := (FB.2.2.1 _ (List.mem_of_getElem? hs)).1
      have hlk := HLL.out _ (List.mem_of_getElem? hr)
      simp only at LA LB hlk
      have CE : Hid (Calls Tryz.prog 48 #[.agg #[.bool x, .int .i64 y, u], .agg #[.bool x, .int .i64 y, u']] wr.drew fun e w' => e = .returned (.bool true) ∧ Below wr.drew.heap.size wr.drew w') := eqBlock_any x y u u' ls l1 l2 wr.drew hlk (own_below LA (Below.refl _ _).drew) (own_below LB (Below.refl _ _).drew)
      obtain ⟨ua, uc, rfl, -⟩ := frow_form LA
      obtain ⟨va, vc, rfl, -⟩ := frow_form LB
      have k0 : (0 : Int) ≤ k := by omega
      have hga2 : ga < wr.heap.size := Nat.lt_of_lt_of_le hga HW.out.size
      have hgb2 : gb < wr.heap.size := Nat.lt_of_lt_of_le hgb HW.out.size
      clear hr hs FA FB FB1 LA LB
      go_wp2
      go_region_held3 (fun w' => w'.cell? ⟨ga, k * 3, none⟩ = some (.bool x) ∧ w'.cell? ⟨ga, k * 3 + 1, none⟩ = some (.int .i64 y) ∧ w'.cell? ⟨ga, k * 3 + 2, none⟩ = some (.slice ua ls.length uc) ∧ w'.cell? ⟨gb, k * 3, none⟩ = some (.bool x) ∧ w'.cell? ⟨gb, k * 3 + 1, none⟩ = some (.int .i64 y) ∧ w'.cell? ⟨gb, k * 3 + 2, none⟩ = some (.slice va ls.length vc)) (first | go_keep | exact ⟨(hb1.cell (show ga < wr.heap.size from hga2)).trans c1, (hb1.cell (show ga < wr.heap.size from hga2)).trans c2, (hb1.cell (show ga < wr.heap.size from hga2)).trans c3, (hb1.cell (show gb < wr.heap.size from hgb2)).trans d1, (hb1.cell (show gb < wr.heap.size from hgb2)).trans d2, (hb1.cell (show gb < wr.heap.size from hgb2)).trans d3⟩) ((go_at_call 48; (with_reducible refine Calls.mono CE.out ?_); rintro e w1 ⟨rfl, hb1⟩))
      have HW2 := hide (HW.out.drew.trans (hb1.mono (by have := HW.out.size; exact this)))
      clear hb1 HW c1 c2 c3 d1 d2 d3 CE
      go_wp2
      go_roundw
      case rel => exact ⟨k + 1, by omega, by go_num, HW2⟩
      case measure => simp [intOf]; omega
    · go_wp2
      go_ret
      exact ⟨rfl, HW.out⟩

set_option maxHeartbeats 400000 in
set_option maxRecDepth 100000 in
theorem eqFlash_any (a b : Value) (rs ss : List Rw) (l1 h1 l2 h2 : Nat) (w : World) (hl : rs.length ≤ 1048576) (hll : ∀ r ∈ rs, r.2.2.2.length ≤ 1048576) (ha : FlashIn w l1 h1 a rs) (hb : FlashIn w l2 h2 b ss) (hh1 : h1 ≤ w.heap.size) (hh2 : h2 ≤ w.heap.size) (he : rs.map tellOf = ss.map tellOf) :
    Calls Tryz.prog 10 #[.agg #[a], .agg #[b]] w fun e w' => e = .returned (.bool true) ∧ Below w.heap.size w w' := by
  have ha1 := ha.1
  have hb1 := hb.1
  obtain ⟨ad, capa, rfl, -⟩ := frow_form ha1
  obtain ⟨bd, capb, rfl, -⟩ := frow_form hb1
  have HW := hide (((Below.refl w.heap.size w).alloc (Nat.le_refl _) (.cells #[.slice ad rs.length capa] 30)).alloc (by simp) (.cells #[.slice bd ss.length capb] 30))
  have HA := hide (ha.below HW.out hh1)
  have HB := hide (hb.below HW.out hh2)
  have HE := hide he
  have HLL := hide hll
  clear ha hb ha1 hb1 he hll
  go_enter Tryz.func10, Tryz.ntmps10
  go_wp2_with fail
  refine (eqBlockS_any _ _ rs ss l1 h1 l2 h2 _ hl HLL.out HA.out HB.out (by simp; omega) (by simp; omega) HE.out).mono ?_
  rintro e w1 ⟨rfl, hb1⟩
  have HW1 := hide (HW.out.trans (hb1.mono HW.out.size))
  clear hb1
  go_wp2
  go_ret
  exact ⟨rfl, HW1.out⟩
end Go.Proofs.YtcjgjkejhkhknabGreatDoor

/-
  What the laws of chapter 5 hold while they go on: cells of their own, flashes that tell something, flashes that are marked.
-/
namespace Go.Proofs.YtcjgjkejhkhknabGreatDoor
open Go.RowKit

def endK : Nat → List Bk → Nat
  | k, [] => k
  | k, r :: rs => endK (k + 2 + 2 * r.2.2.length) rs
theorem endK_tell (k : Nat) (rs : List Rw) : endK k (rs.map tellOf) = endB k rs := by
  induction rs generalizing k with
  | nil => rfl
  | cons r rs ih => simp only [List.map_cons, endK, endB, tellOf]; exact ih _
theorem endK_shape (k : Nat) (xs bs : List Bk) (h : xs.map (fun r => r.2.2.length) = bs.map (fun r => r.2.2.length)) : endK k xs = endK k bs := by
  induction xs generalizing k bs with
  | nil =>
    cases bs with
    | nil => rfl
    | cons b bs => cases h
  | cons a xs ih =>
    cases bs with
    | nil => cases h
    | cons b bs =>
      simp only [List.map_cons, List.cons.injEq] at h
      simp only [endK]
      rw [h.1]
      exact ih _ bs h.2
/-- Neither too long for the law. -/
def Okk (bs : List Bk) : Prop := bs.length ≤ 1048576 ∧ (∀ r ∈ bs, r.2.2.length ≤ 1048576) ∧ endK 1 bs ≤ 1000000000
def TxK (bs : List Bk) : Prop := ∀ r ∈ bs, ∀ t ∈ r.2.2, t.2.size ≤ 1048576
theorem Okk.shape {xs bs : List Bk} (h : Okk bs) (e : xs.map (fun r => r.2.2.length) = bs.map (fun r => r.2.2.length)) : Okk xs := by
  have h1 := congrArg List.length e
  simp only [List.length_map] at h1
  refine ⟨by rw [h1]; exact h.1, fun r hr => ?_, by rw [endK_shape 1 xs bs e]; exact h.2.2⟩
  have h2 : r.2.2.length ∈ xs.map (fun r => r.2.2.length) := List.mem_map_of_mem (f := fun r : Bk => r.2.2.length) hr
  rw [e] at h2
  obtain ⟨q, hq, e2⟩ := List.mem_map.1 h2
  rw [← e2]
  exact h.2.1 q hq
theorem meas {rs : List Rw} {r : Int} (h0 : 0 ≤ r) (h : 2 * r + endB 1 rs ≤ 2 * (1048576 : Nat) + 1) : rs.length ≤ 1048576 ∧ (∀ q ∈ rs, q.2.2.2.length ≤ 1048576) ∧ Okk (rs.map tellOf) := by
  have h1 := endB_len 1 rs
  have h2 : ∀ q ∈ rs, q.2.2.2.length ≤ 1048576 := fun q hq => by
    have := endB_one 1 rs q hq
    omega
  refine ⟨by omega, h2, by rw [List.length_map]; omega, fun r hr => ?_, by rw [endK_tell]; omega⟩
  obtain ⟨q, hq, rfl⟩ := List.mem_map.1 hr
  exact h2 q hq
theorem tx_tell {rs : List Rw} (h : TxB rs) : TxK (rs.map tellOf) := by
  intro r hr
  obtain ⟨q, hq, rfl⟩ := List.mem_map.1 hr
  exact h q hq

def Inn (w : World) (lo hi : Nat) (v : Value) (bs : List Bk) : Prop := ∃ ss, ss.map tellOf = bs ∧ FlashIn w lo hi v ss
theorem Inn.lens {w : World} {lo hi : Nat} {v : Value} {bs : List Bk} (h : Inn w lo hi v bs) (ho : Okk bs) : ∃ ss, ss.map tellOf = bs ∧ FlashIn w lo hi v ss ∧ ss.length ≤ 1048576 ∧ (∀ q ∈ ss, q.2.2.2.length ≤ 1048576) ∧ endB 1 ss = endK 1 bs := by
  obtain ⟨ss, rfl, hs⟩ := h
  refine ⟨ss, rfl, hs, by simpa using ho.1, fun q hq => ho.2.1 _ (List.mem_map_of_mem (f := tellOf) hq), (endK_tell 1 ss).symm⟩
theorem Inn.kept {w w' : World} {lo hi : Nat} {v : Value} {bs : List Bk} (h : Inn w lo hi v bs) (hk : ∀ g, lo ≤ g → g < hi → w'.heap[g]? = w.heap[g]?) : Inn w' lo hi v bs := by
  obtain ⟨ss, e, hs⟩ := h
  exact ⟨ss, e, hs.kept hk⟩
/-- A flash that is marked up to n. -/
def Mrk (w : World) (lo hi : Nat) (v : Value) (n : Nat) : Prop := ∃ ss : List Rw, ss.length ≤ 1048576 ∧ (∀ q ∈ ss, q.2.2.2.length ≤ 1048576) ∧ endB 1 ss = n ∧ FlashIn w lo hi v (marksB 1 ss)
theorem Mrk.kept {w w' : World} {lo hi : Nat} {v : Value} {n : Nat} (h : Mrk w lo hi v n) (hk : ∀ g, lo ≤ g → g < hi → w'.heap[g]? = w.heap[g]?) : Mrk w' lo hi v n := by
  obtain ⟨ss, h1, h2, h3, hs⟩ := h
  exact ⟨ss, h1, h2, h3, hs.kept hk⟩
/-- What is held: cells (block, value, type), flashes (from, to, slice, what they tell), marked ones. -/
def Trk (w wi : World) (cs : List (Nat × Value × TypeId)) (fs : List (Nat × Nat × Value × List Bk)) (ms : List (Nat × Nat × Value × Nat)) : Prop :=
  Below w.heap.size w wi ∧ (∀ c ∈ cs, wi.heap[c.1]? = some (.cells #[c.2.1] c.2.2 (0, 0))) ∧ (∀ f ∈ fs, f.2.1 ≤ wi.heap.size ∧ Inn wi f.1 f.2.1 f.2.2.1 f.2.2.2) ∧ ∀ f ∈ ms, f.2.1 ≤ wi.heap.size ∧ Mrk wi f.1 f.2.1 f.2.2.1 f.2.2.2
theorem Trk.below {w wi wj : World} {cs : List (Nat × Value × TypeId)} {fs : List (Nat × Nat × Value × List Bk)} {ms : List (Nat × Nat × Value × Nat)} (h : Trk w wi cs fs ms) (hb : Below wi.heap.size wi wj) : Trk w wj cs fs ms := by
  obtain ⟨h1, h2, h3, h4⟩ := h
  have hs := hb.size
  refine ⟨h1.trans (hb.mono h1.size), fun c hc => (hb.block _ (Array.getElem?_eq_some_iff.1 (h2 c hc)).1).trans (h2 c hc), fun f hf => ?_, fun f hf => ?_⟩
  · obtain ⟨a, b⟩ := h3 f hf
    exact ⟨by omega, b.kept (fun g _ hg => hb.block g (by omega))⟩
  · obtain ⟨a, b⟩ := h4 f hf
    exact ⟨by omega, b.kept (fun g _ hg => hb.block g (by omega))⟩
theorem Trk.row {w wi : World} {cs : List (Nat × Value × TypeId)} {fs : List (Nat × Nat × Value × List Bk)} {ms : List (Nat × Nat × Value × Nat)} (h : Trk w wi cs fs ms) (n : Nat) {g : Nat} {v : Value} {t : TypeId} (hn : cs[n]? = some (g, v, t)) : wi.heap[g]? = some (.cells #[v] t (0, 0)) := h.2.1 _ (List.mem_of_getElem? hn)
theorem Trk.at {w wi : World} {cs : List (Nat × Value × TypeId)} {fs : List (Nat × Nat × Value × List Bk)} {ms : List (Nat × Nat × Value × Nat)} (h : Trk w wi cs fs ms) (n : Nat) {g : Nat} {v : Value} {t : TypeId} (hn : cs[n]? = some (g, v, t)) : wi.cell? ⟨g, 0, none⟩ = some v := cell_of_row _ _ 0 _ _ _ (h.row n hn)
theorem Trk.fl {w wi : World} {cs : List (Nat × Value × TypeId)} {fs : List (Nat × Nat × Value × List Bk)} {ms : List (Nat × Nat × Value × Nat)} (h : Trk w wi cs fs ms) (n : Nat) {lo hi : Nat} {v : Value} {bs : List Bk} (hn : fs[n]? = some (lo, hi, v, bs)) : hi ≤ wi.heap.size ∧ Inn wi lo hi v bs := h.2.2.1 _ (List.mem_of_getElem? hn)
theorem Trk.mk {w wi : World} {cs : List (Nat × Value × TypeId)} {fs : List (Nat × Nat × Value × List Bk)} {ms : List (Nat × Nat × Value × Nat)} (h : Trk w wi cs fs ms) (n : Nat) {lo hi k : Nat} {v : Value} (hn : ms[n]? = some (lo, hi, v, k)) : hi ≤ wi.heap.size ∧ Mrk wi lo hi v k := h.2.2.2 _ (List.mem_of_getElem? hn)
theorem Trk.start (w : World) (v : Value) (t : TypeId) : Trk w (w.alloc (.cells #[v] t)) [(w.heap.size, v, t)] [] [] := by
  refine ⟨(Below.refl _ _).alloc (Nat.le_refl _) _, fun c hc => ?_, fun f hf => (by cases hf), fun f hf => (by cases hf)⟩
  rw [List.mem_singleton] at hc
  subst hc
  exact heap_alloc_new w _
theorem Trk.cell {w wi : World} {cs : List (Nat × Value × TypeId)} {fs : List (Nat × Nat × Value × List Bk)} {ms : List (Nat × Nat × Value × Nat)} (h : Trk w wi cs fs ms) (v : Value) (t : TypeId) : Trk w (wi.alloc (.cells #[v] t)) ((wi.heap.size, v, t) :: cs) fs ms := by
  obtain ⟨h1, h2, h3⟩ := h.below ((Below.refl _ _).alloc (Nat.le_refl _) (.cells #[v] t))
  refine ⟨h1, fun c hc => ?_, h3⟩
  rcases List.mem_cons.1 hc with rfl | hc
  · exact heap_alloc_new wi _
  · exact h2 c hc
theorem Trk.add {w wi wj : World} {cs : List (Nat × Value × TypeId)} {fs : List (Nat × Nat × Value × List Bk)} {ms : List (Nat × Nat × Value × Nat)} {v : Value} {bs : List Bk} (h : Trk w wi cs fs ms) (hb : Below wi.heap.size wi wj) (hf : FlashOf wj wi.heap.size v bs) : Trk w wj cs ((wi.heap.size, wj.heap.size, v, bs) :: fs) ms := by
  obtain ⟨h1, h2, h3, h4⟩ := h.below hb
  refine ⟨h1, h2, fun f hf' => ?_, h4⟩
  rcases List.mem_cons.1 hf' with rfl | hf'
  · exact ⟨Nat.le_refl _, hf⟩
  · exact h3 f hf'
theorem Trk.drop {w wi : World} {cs cs' : List (Nat × Value × TypeId)} {fs fs' : List (Nat × Nat × Value × List Bk)} {ms : List (Nat × Nat × Value × Nat)} (h : Trk w wi cs fs ms) (hc : ∀ c ∈ cs', c ∈ cs) (hf : ∀ f ∈ fs', f ∈ fs) : Trk w wi cs' fs' ms :=
  ⟨h.1, fun c h' => h.2.1 c (hc c h'), fun f h' => h.2.2.1 f (hf f h'), h.2.2.2⟩
/-- One flash is marked: all that lies apart from it stays. -/
theorem Trk.mark {w wi wj : World} {cs : List (Nat × Value × TypeId)} {fs : List (Nat × Nat × Value × List Bk)} {ms : List (Nat × Nat × Value × Nat)} {lo hi n : Nat} {v : Value} (h : Trk w wi cs fs ms) (hk : Kept2 wi wj (Apart lo hi)) (hm : Mrk wj lo hi v n) (hh : hi ≤ wi.heap.size) (hlo : w.heap.size ≤ lo)
    (hc : ∀ c ∈ cs, c.1 < lo ∨ hi ≤ c.1) (hf : ∀ f ∈ fs, f.2.1 ≤ lo ∨ hi ≤ f.1) (hms : ∀ f ∈ ms, f.2.1 ≤ lo ∨ hi ≤ f.1) : Trk w wj cs fs ((lo, hi, v, n) :: ms) := by
  obtain ⟨h1, h2, h3, h4⟩ := h
  have hs := hk.2.2.2.1
  have hs1 := h1.size
  refine ⟨h1.trans (hk.down h1.size (fun i hi' hq => by omega)), fun c hq => ?_, fun f hq => ?_, fun f hq => ?_⟩
  · have := h2 c hq
    refine (hk.2.2.2.2 _ (Array.getElem?_eq_some_iff.1 this).1 (fun hz => ?_)).trans this
    have := hc c hq
    omega
  · obtain ⟨a, b⟩ := h3 f hq
    refine ⟨by omega, b.kept (fun g g1 g2 => hk.2.2.2.2 g (by omega) (fun hz => ?_))⟩
    have := hf f hq
    omega
  · rcases List.mem_cons.1 hq with rfl | hq
    · exact ⟨by show hi ≤ _; omega, hm⟩
    · obtain ⟨a, b⟩ := h4 f hq
      refine ⟨by omega, b.kept (fun g g1 g2 => hk.2.2.2.2 g (by omega) (fun hz => ?_))⟩
      have := hms f hq
      omega
theorem eq_of (a b : Value) (bs : List Bk) (l1 h1 l2 h2 : Nat) (w : World) (ho : Okk bs) (ha : h1 ≤ w.heap.size ∧ Inn w l1 h1 a bs) (hb : h2 ≤ w.heap.size ∧ Inn w l2 h2 b bs) :
    Calls Tryz.prog 10 #[.agg #[a], .agg #[b]] w fun e w' => e = .returned (.bool true) ∧ Below w.heap.size w w' := by
  obtain ⟨rs, e1, i1, l, ll, -⟩ := ha.2.lens ho
  obtain ⟨ss, e3, i2⟩ := hb.2
  exact eqFlash_any a b rs ss _ _ _ _ w l ll i1 i2 ha.1 hb.1 (e1.trans e3.symm)
theorem to_trk {w wi : World} {cs : List (Nat × Value × TypeId)} {fs : List (Nat × Nat × Value × List Bk)} {ms : List (Nat × Nat × Value × Nat)} {a : Option Addr} {len cap : Nat} {rs : List Rw} {bs : List Bk} (T : Trk w wi cs fs ms) (H : BkRow w a len rs) (hbs : rs.map tellOf = bs) (hl : len ≤ 1048576) (hll : ∀ q ∈ rs, q.2.2.2.length ≤ 1048576) :
    Calls Tryz.prog 7 #[.agg #[.slice a len cap]] wi fun e w' => ∃ ad c, e = .returned (.agg #[.slice ad bs.length c]) ∧ Trk w w' cs ((wi.heap.size, w'.heap.size, .slice ad bs.length c, bs) :: fs) ms ∧ wi.heap.size ≤ w'.heap.size := by
  refine (toFlash_any a len cap rs wi hl hll (H.below T.1)).mono ?_
  rintro e w2 ⟨v1, rfl, f1, b2⟩
  rw [hbs] at f1
  have T2 := T.add b2 f1
  obtain ⟨ad1, cap1, rfl⟩ := f1.form
  exact ⟨ad1, cap1, rfl, T2, b2.size⟩
theorem eq_trk {w wi : World} {cs : List (Nat × Value × TypeId)} {fs : List (Nat × Nat × Value × List Bk)} {ms : List (Nat × Nat × Value × Nat)} {u v : Value} {l1 h1 l2 h2 : Nat} {bs : List Bk} (T : Trk w wi cs fs ms) (n1 n2 : Nat) (ho : Okk bs) (e1 : fs[n1]? = some (l1, h1, u, bs)) (e2 : fs[n2]? = some (l2, h2, v, bs)) :
    Calls Tryz.prog 10 #[.agg #[u], .agg #[v]] wi fun e w' => e = .returned (.bool true) ∧ Trk w w' cs fs ms ∧ wi.heap.size ≤ w'.heap.size := by
  refine (eq_of _ _ bs _ _ _ _ wi ho (T.fl n1 e1) (T.fl n2 e2)).mono ?_
  rintro e w2 ⟨rfl, b2⟩
  exact ⟨rfl, T.below b2, b2.size⟩
theorem Trk.drew {w wi : World} {cs : List (Nat × Value × TypeId)} {fs : List (Nat × Nat × Value × List Bk)} {ms : List (Nat × Nat × Value × Nat)} (h : Trk w wi cs fs ms) : Trk w wi.drew cs fs ms := h.below (Below.refl _ _).drew
end Go.Proofs.YtcjgjkejhkhknabGreatDoor

/-
  A flash among what a law holds.
-/
namespace Go.Proofs.YtcjgjkejhkhknabGreatDoor
open Go.RowKit

/-- A flash in blocks from lo on and below hi. -/
def Fla (lo hi : Nat) (v : Value) (bs : List Bk) : World → Prop := fun W => ∃ ss : List Rw, ss.map tellOf = bs ∧ FlashIn W lo hi v ss
theorem Fla.loc (lo hi : Nat) (v : Value) (bs : List Bk) : Loc lo hi (Fla lo hi v bs) := by
  rintro w w' hk ⟨ss, e, h⟩
  exact ⟨ss, e, h.kept hk⟩
theorem Fla.form {w : World} {lo hi : Nat} {v : Value} {bs : List Bk} (h : Fla lo hi v bs w) : ∃ ad cap, v = .slice ad bs.length cap ∧ (0 < bs.length → ∃ g, ad = some ⟨g, 0, none⟩ ∧ lo ≤ g ∧ g < hi) := by
  obtain ⟨ss, rfl, h⟩ := h
  obtain ⟨ad, cap, rfl, -, -, h3⟩ := frow_form h.1
  refine ⟨ad, cap, by simp, fun hp => ?_⟩
  obtain ⟨g, e, h4, -⟩ := h3 (by simpa using hp)
  subst e
  exact ⟨g, rfl, h4, h.2.1 g rfl⟩
/-- What a function answered joins what is held. -/
theorem Tk.fla {w wi wj : World} {hs : List Hold} {v : Value} {bs : List Bk} (T : Tk w wi hs) (hb : Below wi.heap.size wi wj) (f : FlashOf wj wi.heap.size v bs) : Tk w wj ((wi.heap.size, wj.heap.size, Fla wi.heap.size wj.heap.size v bs) :: hs) := T.add hb (Fla.loc _ _ _ _) f
theorem Fla.of {w : World} {lo hi B : Nat} {v : Value} {bs : List Bk} (h : Fla lo hi v bs w) (hh : hi ≤ w.heap.size) (hB : B ≤ lo) : FlashOf w B v bs := by
  obtain ⟨ss, e, h⟩ := h
  exact ⟨ss, e, (h.up hh).down hB⟩
/-- The cells of a block. -/
theorem Fla.cells {w : World} {lo hi g n cap k : Nat} {bs : List Bk} {b : Bk} (h : Fla lo hi (.slice (some ⟨g, 0, none⟩) n cap) bs w) (hb : bs[k]? = some b) : w.cell? ⟨g, k * 3, none⟩ = some (.bool b.1) ∧ w.cell? ⟨g, k * 3 + 1, none⟩ = some (.int .i64 b.2.1) ∧ ∃ u, w.cell? ⟨g, k * 3 + 2, none⟩ = some u ∧ w.ownsRow lo 122 2 u b.2.2.length (lcells b.2.2) := by
  obtain ⟨ss, rfl, h⟩ := h
  rw [List.getElem?_map] at hb
  cases hr : ss[k]? with
  | none => rw [hr] at hb; cases hb
  | some r =>
    rw [hr] at hb
    cases hb
    have hn : n = ss.length := by
      obtain ⟨ad, c, e, -⟩ := frow_form h.1
      injection e
    subst hn
    obtain ⟨c1, c2, c3⟩ := kown_cells (k := k) (t := cellOf r) h.1 (by rw [List.getElem?_map, hr]; rfl)
    exact ⟨c1, c2, _, c3, (h.2.2.1 r (List.mem_of_getElem? hr)).1⟩
/-- Numbers that lie in a block. -/
def Nums (g : Nat) (l : List Int) : World → Prop := fun W => ∀ j x, l[j]? = some x → W.cell? ⟨g, j, none⟩ = some (.int .i64 x)
theorem Nums.loc (g : Nat) (l : List Int) : Loc g (g + 1) (Nums g l) := fun w w' hk h j x hx => (World.cell?_of_block (hk g (Nat.le_refl _) (by omega))).trans (h j x hx)
end Go.Proofs.YtcjgjkejhkhknabGreatDoor

/-
  What the exact laws over flashes hold: the flash made of the argument, its like, and marked ones.
-/
namespace Go.Proofs.YtcjgjkejhkhknabGreatDoor
open Go.RowKit

theorem Fla.lens {w : World} {lo hi : Nat} {v : Value} {bs : List Bk} (h : Fla lo hi v bs w) (ho : Okk bs) : ∃ ss, ss.map tellOf = bs ∧ FlashIn w lo hi v ss ∧ ss.length ≤ 1048576 ∧ (∀ q ∈ ss, q.2.2.2.length ≤ 1048576) ∧ endB 1 ss = endK 1 bs := Inn.lens h ho
theorem to_tk {w wi : World} {hs : List Hold} {a : Option Addr} {len cap : Nat} {rs : List Rw} {bs : List Bk} (T : Tk w wi hs) (H : BkRow w a len rs) (hbs : rs.map tellOf = bs) (hl : len ≤ 1048576) (hll : ∀ q ∈ rs, q.2.2.2.length ≤ 1048576) :
    Calls Tryz.prog 7 #[.agg #[.slice a len cap]] wi fun e w' => ∃ ad c, e = .returned (.agg #[.slice ad bs.length c]) ∧ Tk w w' ((wi.heap.size, w'.heap.size, Fla wi.heap.size w'.heap.size (.slice ad bs.length c) bs) :: hs) ∧ wi.heap.size ≤ w'.heap.size := by
  refine (toFlash_any a len cap rs wi hl hll (H.below T.1)).mono ?_
  rintro e w2 ⟨v1, rfl, f1, b2⟩
  rw [hbs] at f1
  have T2 := T.add b2 (Fla.loc _ _ v1 bs) f1
  obtain ⟨ad1, cap1, rfl⟩ := f1.form
  exact ⟨ad1, cap1, rfl, T2, b2.size⟩
theorem eq_tk {w wi : World} {hs : List Hold} {u v : Value} {l1 h1 l2 h2 : Nat} {bs : List Bk} (T : Tk w wi hs) (n1 n2 : Nat) (ho : Okk bs) (e1 : hs[n1]? = some (l1, h1, Fla l1 h1 u bs)) (e2 : hs[n2]? = some (l2, h2, Fla l2 h2 v bs)) :
    Calls Tryz.prog 10 #[.agg #[u], .agg #[v]] wi fun e w' => e = .returned (.bool true) ∧ Tk w w' hs ∧ wi.heap.size ≤ w'.heap.size := by
  refine (eq_of _ _ bs _ _ _ _ wi ho ⟨T.hi n1 e1, T.get n1 e1⟩ ⟨T.hi n2 e2, T.get n2 e2⟩).mono ?_
  rintro e w2 ⟨rfl, b2⟩
  exact ⟨rfl, T.below b2, b2.size⟩
end Go.Proofs.YtcjgjkejhkhknabGreatDoor

/-
  The laws' own eqIntS, eqKnotS, eqArena.
-/
namespace Go.Proofs.YtcjgjkejhkhknabGreatDoor
open Go.RowKit
open Words

set_option maxHeartbeats 400000 in
set_option maxRecDepth 100000 in
theorem eqIs_same (a b : Value) (M : List Int) (n : Nat) (B1 C1 B2 C2 : Nat) (w : World) (hn : M.length = n) (hM : n ≤ 1000000000000000000) (ha : Sli 3 B1 C1 a n (icells M) w) (hb : Sli 3 B2 C2 b n (icells M) w) :
    Calls Tryz.prog 11 #[a, b] w fun e w' => e = .returned (.bool true) ∧ Below w.heap.size w w' := by
  obtain ⟨ad, capa, rfl, a3⟩ := ha.form
  obtain ⟨bd, capb, rfl, b3⟩ := hb.form
  have HSA := hide ha
  have HSB := hide hb
  have A3 := hide a3
  have B3 := hide b3
  have HN := hide hn
  clear ha hb a3 b3 hn
  go_enter Tryz.func11, Tryz.ntmps11
  go_wp2
  go_loopw [5] (fun iv wr => ∃ k : Nat, k ≤ n ∧ iv = .int .i64 k ∧ Hid (∃ q, wr = w.drewN q)) (fun iv _ => n - (intOf iv).toNat)
  case atStart => exact ⟨0, Nat.zero_le _, rfl, ⟨0, rfl⟩⟩
  case round =>
    obtain ⟨k, hk, rfl, HQ⟩ := hrel
    obtain ⟨q, hq⟩ := HQ.out
    subst hq
    clear HQ
    by_cases hlt : (k : Int) < n
    · obtain ⟨ga, e, -, -⟩ := A3.out (by omega)
      subst e
      obtain ⟨gb, e, -, -⟩ := B3.out (by omega)
      subst e
      obtain ⟨x, hx⟩ : ∃ x, M[k]? = some x := ⟨_, List.getElem?_eq_getElem (by have := HN.out; omega)⟩
      have c1 := HSA.out.flt.cell (icells_get hx)
      have c2 := HSB.out.flt.cell (icells_get hx)
      have hxx : (x != x) = false := by simp
      have k0 : (0 : Int) ≤ k := by omega
      clear hx
      go_wp2
      go_quiet (fail)
      go_wp2
      go_roundw
      case rel => exact ⟨k + 1, by omega, by go_num, ⟨_, rfl⟩⟩
      case measure => simp [intOf]; omega
    · go_wp2
      go_ret
      exact ⟨rfl, below_drewN (Below.refl _ _) _⟩
set_option maxHeartbeats 400000 in
set_option maxRecDepth 100000 in
theorem eqKn_same (x : Bool) (n : Nat) (a1 a2 : Option Addr) (c1 c2 : Nat) (ls : List Int) (B1 C1 B2 C2 : Nat) (w : World) (hn : ls.length = n) (hM : n ≤ 1000000000000000000) (h1 : Sli 3 B1 C1 (.slice a1 n c1) n (icells ls) w) (h2 : Sli 3 B2 C2 (.slice a2 n c2) n (icells ls) w) :
    Calls Tryz.prog 84 #[.agg #[.bool x, .slice a1 n c1], .agg #[.bool x, .slice a2 n c2]] w fun e w' => e = .returned (.bool true) ∧ Below w.heap.size w w' := by
  have e0 : (x != x) = false := by simp
  have HB : Hid (Below w.heap.size w ((w.alloc (.cells #[.bool x, .slice a1 n c1] 143)).alloc (.cells #[.bool x, .slice a2 n c2] 143))) := ((Below.refl _ _).alloc (Nat.le_refl _) _).alloc (by simp) _
  have C := hide (eqIs_same _ _ ls n B1 C1 B2 C2 _ hn hM (h1.blw HB.out) (h2.blw HB.out))
  clear h1 h2
  go_enter Tryz.func84, Tryz.ntmps84
  go_wp2_with fail
  refine C.out.mono ?_
  rintro e w1 ⟨rfl, b1⟩
  have HW := hide (HB.out.trans (b1.mono HB.out.size))
  clear b1 C HB
  go_wp2
  go_ret
  exact ⟨rfl, HW.out⟩
set_option maxHeartbeats 1000000 in
set_option maxRecDepth 100000 in
theorem eqKns_same (a b : Value) (rs ss : List Kw) (B1 C1 B2 C2 : Nat) (w : World) (hM : rs.length ≤ 1000000000000000000) (hll : ∀ r ∈ rs, r.2.2.length ≤ 1000000000000000000) (ha : KIn B1 C1 a rs w) (hb : KIn B2 C2 b ss w) (he : rs.map ktell = ss.map ktell) :
    Calls Tryz.prog 59 #[a, b] w fun e w' => e = .returned (.bool true) ∧ Below w.heap.size w w' := by
  have hls : rs.length = ss.length := by have := congrArg List.length he; simpa using this
  obtain ⟨ad, capa, rfl, a3⟩ := ha.1.form
  obtain ⟨bd, capb, rfl, b3⟩ := hb.1.form
  obtain ⟨n, hn⟩ : ∃ n, rs.length = n := ⟨_, rfl⟩
  have HN := hide hn
  have HSA := hide ha
  have HSB := hide hb
  have HE := hide he
  have HLL := hide hll
  rw [hn] at hls
  rw [← hls] at b3 HSB ⊢
  rw [hn] at hM a3 HSA ⊢
  have A3 := hide a3
  have B3 := hide b3
  have HLS := hide hls
  clear a3 b3 ha hb hn he hll hls
  go_enter Tryz.func59, Tryz.ntmps59
  go_wp2
  go_loopw [5] (fun iv wr => ∃ k : Nat, k ≤ n ∧ iv = .int .i64 k ∧ Hid (Below w.heap.size w wr)) (fun iv _ => n - (intOf iv).toNat)
  case atStart => exact ⟨0, Nat.zero_le _, rfl, Below.refl _ _⟩
  case round =>
    obtain ⟨k, hk, rfl, HW⟩ := hrel
    by_cases hlt : (k : Int) < n
    · obtain ⟨ga, e, _, _⟩ := A3.out (by omega)
      subst e
      obtain ⟨gb, e, _, _⟩ := B3.out (by omega)
      subst e
      have hkl : k < rs.length := by have := HN.out; omega
      have hkl2 : k < ss.length := by have := HLS.out; omega
      obtain ⟨r, hr⟩ : ∃ r, rs[k]? = some r := ⟨_, List.getElem?_eq_getElem hkl⟩
      obtain ⟨s, hs⟩ : ∃ s, ss[k]? = some s := ⟨_, List.getElem?_eq_getElem hkl2⟩
      have hrs : ktell r = ktell s := by
        have e := congrArg (fun l => l[k]?) HE.out
        simp only [List.getElem?_map, hr, hs, Option.map_some, Option.some.injEq] at e
        exact e
      have SA := (HSA.out.2.1 r (List.mem_of_getElem? hr)).1.blw HW.out
      have SB := (HSB.out.2.1 s (List.mem_of_getElem? hs)).1.blw HW.out
      have hlr := HLL.out r (List.mem_of_getElem? hr)
      have ha1 := HSA.out.1
      have hb1 := HSB.out.1
      rw [HN.out] at ha1
      rw [← HLS.out] at hb1
      have GA := ha1.flt.below HW.out
      have GB := hb1.flt.below HW.out
      clear ha1 hb1
      have c0 := GA.cell (kncells_at rs k _ hr 0 _ rfl)
      have c1 := GA.cell (kncells_at rs k _ hr 1 _ rfl)
      have d0 := GB.cell (kncells_at ss k _ hs 0 _ rfl)
      have d1 := GB.cell (kncells_at ss k _ hs 1 _ rfl)
      obtain ⟨rn, rv, rl⟩ := r
      obtain ⟨sn, sv, sl⟩ := s
      simp only [ktell, Kn.mk.injEq] at hrs
      obtain ⟨rfl, rfl⟩ := hrs
      simp only [Nat.add_zero] at SA SB c0 c1 d0 d1 hlr
      obtain ⟨m, hm⟩ : ∃ m, rl.length = m := ⟨_, rfl⟩
      rw [hm] at SA SB hlr
      obtain ⟨va, vc, rfl, -⟩ := SA.form
      obtain ⟨ua, uc, rfl, -⟩ := SB.form
      have CE := hide (eqKn_same rn m va ua vc uc rl _ _ _ _ wr.drew hm hlr (SA.blw (Below.refl _ _).drew) (SB.blw (Below.refl _ _).drew))
      have hsz := HW.out.size
      have k0 : (0 : Int) ≤ k := by omega
      have gaw : ga < wr.heap.size := World.block_lt_of_cell? wr _ c0
      have gbw : gb < wr.heap.size := World.block_lt_of_cell? wr _ d0
      clear hr hs hkl hkl2 GA GB SA SB hm
      go_wp2
      go_region_held3 (fun w' => w'.cell? ⟨ga, k * 2, none⟩ = some (.bool rn) ∧ w'.cell? ⟨ga, k * 2 + 1, none⟩ = some (.slice va m vc) ∧ w'.cell? ⟨gb, k * 2, none⟩ = some (.bool rn) ∧ w'.cell? ⟨gb, k * 2 + 1, none⟩ = some (.slice ua m uc)) (first | go_keep | exact ⟨(b1.cell (show ga < wr.drew.heap.size from gaw)).trans c0, (b1.cell (show ga < wr.drew.heap.size from gaw)).trans c1, (b1.cell (show gb < wr.drew.heap.size from gbw)).trans d0, (b1.cell (show gb < wr.drew.heap.size from gbw)).trans d1⟩) ((go_at_call 84; (with_reducible refine Calls.mono CE.out ?_); rintro en w1 ⟨rfl, b1⟩))
      all_goals
        have HW1 := hide (HW.out.drew.trans (b1.mono (show w.heap.size ≤ wr.drew.heap.size from hsz)))
        clear b1 CE HW c0 c1 d0 d1
        go_wp2
        go_roundw
        case rel => exact ⟨k + 1, by omega, by go_num, HW1⟩
        case measure => simp [intOf]; omega
    · go_wp2
      go_ret
      exact ⟨rfl, HW.out⟩
set_option maxHeartbeats 400000 in
set_option maxRecDepth 100000 in
theorem eqAr_same (a b : Value) (rs ss : List Kw) (B1 C1 B2 C2 : Nat) (w : World) (hM : rs.length ≤ 1000000000000000000) (hll : ∀ r ∈ rs, r.2.2.length ≤ 1000000000000000000) (ha : KIn B1 C1 a rs w) (hb : KIn B2 C2 b ss w) (he : rs.map ktell = ss.map ktell) (hC1 : C1 ≤ w.heap.size) (hC2 : C2 ≤ w.heap.size) :
    Calls Tryz.prog 36 #[.agg #[a], .agg #[b]] w fun e w' => e = .returned (.bool true) ∧ Below w.heap.size w w' := by
  obtain ⟨ad, capa, rfl, a3⟩ := ha.1.form
  obtain ⟨bd, capb, rfl, b3⟩ := hb.1.form
  have HB : Hid (Below w.heap.size w ((w.alloc (.cells #[.slice ad rs.length capa] 47)).alloc (.cells #[.slice bd ss.length capb] 47))) := ((Below.refl _ _).alloc (Nat.le_refl _) _).alloc (by simp) _
  have C := hide (eqKns_same _ _ rs ss B1 C1 B2 C2 _ hM hll (KIn.loc _ _ _ _ _ _ (fun i _ hi => HB.out.block i (by omega)) ha) (KIn.loc _ _ _ _ _ _ (fun i _ hi => HB.out.block i (by omega)) hb) he)
  obtain ⟨n, hn⟩ : ∃ n, rs.length = n := ⟨_, rfl⟩
  obtain ⟨m, hm⟩ : ∃ m, ss.length = m := ⟨_, rfl⟩
  rw [hn, hm] at C HB
  rw [hn, hm]
  clear ha hb a3 b3 hll hn hm he hM
  go_enter Tryz.func36, Tryz.ntmps36
  go_wp2_with fail
  refine C.out.mono ?_
  rintro e w1 ⟨rfl, b1⟩
  have HW := hide (HB.out.trans (b1.mono HB.out.size))
  clear b1 C HB
  go_wp2
  go_ret
  exact ⟨rfl, HW.out⟩
end Go.Proofs.YtcjgjkejhkhknabGreatDoor
