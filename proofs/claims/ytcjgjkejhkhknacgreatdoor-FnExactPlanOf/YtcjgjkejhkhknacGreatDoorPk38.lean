/-
  IChunk; MapG
-/
import Derived.Test.YtcjgjkejhkhknacGreatDoorPk37
import Derived.Test.YtcjgjkejhkhknacGreatDoorPk0
import Derived.Maps.OwnSet
set_option maxHeartbeats 1000000
set_option maxRecDepth 100000
namespace Go.Proofs.YtcjgjkejhkhknacGreatDoor
open Go.RowKit
open Words
def chunksK (l : List Kn) (vs : List (Int × Int)) (k : Nat) : List Int := ((vs.take k).flatMap (fun v => allT l v.2)).filter (fun y => decide (1 ≤ y))
theorem chunksK_succ {l : List Kn} {vs : List (Int × Int)} {k : Nat} {v : Int × Int} (h : vs[k]? = some v) : chunksK l vs (k + 1) = chunksK l vs k ++ (allT l v.2).filter (fun y => decide (1 ≤ y)) := by
 obtain ⟨h1, h2⟩ := List.getElem?_eq_some_iff.1 h
 rw [chunksK, chunksK, List.take_succ_eq_append_getElem h1, h2, List.flatMap_append, List.filter_append]
 simp
theorem filter_takeC {L : List Int} {x : Int} {m : Nat} (h : L[m]? = some x) : (L.take (m + 1)).filter (fun y => decide (1 ≤ y)) = (L.take m).filter (fun y => decide (1 ≤ y)) ++ (if 1 ≤ x then [x] else []) := by
 obtain ⟨h1, h2⟩ := List.getElem?_eq_some_iff.1 h
 rw [List.take_succ_eq_append_getElem h1, h2, List.filter_append, List.filter_cons, List.filter_nil]
 by_cases hx : 1 ≤ x <;> simp [hx]
def CkSt (w W : World) (z : Nat) (vv kv nv cv : Value) (l : List Int) : Prop := W.cell? ⟨z, 0, none⟩ = some vv ∧ W.cell? ⟨z, 1, none⟩ = some kv ∧ W.cell? ⟨z, 2, none⟩ = some nv ∧ W.ownsRow (w.heap.size + 1) 3 1 cv l.length (icells l) ∧ Below w.heap.size w W
theorem CkSt.below {w W W' : World} {z : Nat} {vv kv nv cv : Value} {l : List Int} (h : CkSt w W z vv kv nv cv l) (hb : Below W.heap.size W W') : CkSt w W' z vv kv nv cv l :=
 ⟨(hb.cell (World.block_lt_of_cell? W _ h.1)).trans h.1, (hb.cell (World.block_lt_of_cell? W _ h.2.1)).trans h.2.1, (hb.cell (World.block_lt_of_cell? W _ h.2.2.1)).trans h.2.2.1, own_below h.2.2.2.1 hb, h.2.2.2.2.trans (hb.mono h.2.2.2.2.size)⟩
theorem CkSt.snoc {w W y : World} {z : Nat} {vv kv nv cv u : Value} {l : List Int} {n : Int} (hz : z = w.heap.size) (h : CkSt w W z vv kv nv cv l) (ho : y.ownsRow (w.heap.size + 1) 3 1 u (l.length + 1) (icells l ++ [.int .i64 n])) (hg : (W.alloc (.cells #[.int .i64 n] 3)).grownBy y cv.ownBlock) : CkSt w y z vv kv nv u (l ++ [n]) := by
 have h1 := h.below ((Below.refl _ _).alloc (Nat.le_refl _) (.cells #[.int .i64 n] 3))
 have lt : ∀ q, cv.ownBlock = some q → w.heap.size + 1 ≤ q := fun q hq => (h1.2.2.2.1.lt q hq).1
 have b := h1.2.2.2.2.grown hg h1.2.2.2.2.size (fun q hq => by have := lt q hq; omega)
 have c : ∀ k v, (W.alloc (.cells #[.int .i64 n] 3)).cell? ⟨z, k, none⟩ = some v → y.cell? ⟨z, k, none⟩ = some v := fun k v hv => by
  have hl := World.block_lt_of_cell? _ _ hv
  have hb := hg.block z hl (fun e => by have := lt z e.symm; omega)
  unfold World.cell? at hv ⊢
  simp only at hb hv ⊢
  rw [hb]
  exact hv
 rw [icells_snoc] at ho
 exact ⟨c 0 _ h1.1, c 1 _ h1.2.1, c 2 _ h1.2.2.1, by rw [List.length_append]; exact ho, b⟩
def CkIn (w W : World) (z : Nat) (vv kv nv cv : Value) (l : List Int) (ag : Nat) (L : List Int) : Prop := CkSt w W z vv kv nv cv l ∧ (∀ (k : Nat) (x : Int), L[k]? = some x → W.cell? ⟨ag, k, none⟩ = some (.int .i64 x)) ∧ cv.ownBlock ≠ some ag ∧ ag < W.heap.size
theorem CkIn.snoc {w W y : World} {z ag : Nat} {vv kv nv cv u : Value} {l L : List Int} {n : Int} (hz : z = w.heap.size) (h : CkIn w W z vv kv nv cv l ag L) (ho : y.ownsRow (w.heap.size + 1) 3 1 u (l.length + 1) (icells l ++ [.int .i64 n])) (hg : (W.alloc (.cells #[.int .i64 n] 3)).grownBy y cv.ownBlock) (hu : u.ownBlock = cv.ownBlock ∨ u.ownBlock = some (W.heap.size + 1)) : CkIn w y z vv kv nv u (l ++ [n]) ag L := by
 obtain ⟨h1, h2, h3, h4⟩ := h
 have hz2 : (W.alloc (.cells #[.int .i64 n] 3)).heap.size = W.heap.size + 1 := by simp
 have hs := hg.size
 have hb : y.heap[ag]? = W.heap[ag]? := (hg.block ag (by omega) (fun e => h3 e.symm)).trans (((Below.refl _ _).alloc (Nat.le_refl _) (.cells #[.int .i64 n] 3)).block ag h4)
 refine ⟨h1.snoc hz ho hg, fun k x hk => ?_, ?_, by omega⟩
 ·have := h2 k x hk
  unfold World.cell? at this ⊢
  simp only at hb this ⊢
  rw [hb]
  exact this
 ·rcases hu with e | e
  ·rw [e]; exact h3
  ·rw [e]
   intro q
   injection q with q
   omega
theorem ichunksOf (va : Option Addr) (vl vc : Nat) (ad : Option Addr) (len cap : Nat) (nx : Int) (vs : List (Int × Int)) (rs : List Kw) (w : World) (hvl : vl ≤ 1048576) (hl : len ≤ 1048576) (h : VlRow w va vl vs) (hk : KnRd w ad len rs) :
 Calls Tryz.prog 132 #[.agg (SBox va vl vc ad len cap nx)] w (IOut w (chunksS ⟨vs, rs.map ktell, nx⟩)) := by
 have BX := hide (sbox_at w (.slice va vl vc) (.slice ad len cap) (.int .i64 nx))
 have B0 : Hid (Below w.heap.size w (w.alloc (.cells #[.slice va vl vc, .slice ad len cap, .int .i64 nx] 52))) := (Below.refl _ _).alloc (Nat.le_refl _) _
 have HV := hide h
 have HVL := hide h.1
 have HK := hide hk
 obtain ⟨i0, hi, hz0, hz1, hz2⟩ := info_parts infoInt
 have I0 := hide hi
 have Y0 := hide hz0
 have Y1 := hide hz1
 have Y2 := hide hz2
 clear h hk hi hz0 hz1 hz2
 unfold SBox
 go_enter Tryz.func132, Tryz.ntmps132
 go_wp2_with fail
 generalize w.alloc (.cells #[.slice va vl vc, .slice ad len cap, .int .i64 nx] 52) = wb at BX B0 ⊢
 obtain ⟨z, hz⟩ : ∃ z, w.heap.size = z := ⟨_, rfl⟩
 rw [hz] at BX ⊢
 have HZW := hide hz
 clear hz
 have S0 : Hid (CkSt w wb z (.slice va vl vc) (.slice ad len cap) (.int .i64 nx) (.slice none 0 0) []) := ⟨BX.out.1, BX.out.2.1, BX.out.2.2, World.ownsRow_nil _ _ _ _, B0.out⟩
 go_loopw [3, 11] (fun cv kv W => ∃ (k : Nat) (l : List Int), k ≤ vl ∧ kv = .int .i64 k ∧ l.length ≤ 16 * k ∧ Hid (l = chunksK (rs.map ktell) vs k) ∧ Hid (CkSt w W z (.slice va vl vc) (.slice ad len cap) (.int .i64 nx) cv l)) (fun _ kv _ => vl - (intOf kv).toNat)
 case atStart => exact ⟨0, [], Nat.zero_le _, rfl, Nat.le_refl _, (rfl : [] = chunksK (rs.map ktell) vs 0), S0⟩
 case round =>
  obtain ⟨k, l, hkv, rfl, hll, HL, HS⟩ := hrel
  clear S0
  by_cases hlt : (k : Int) < vl
  ·obtain ⟨v, hv⟩ : ∃ v, vs[k]? = some v := ⟨_, List.getElem?_eq_getElem (by have := HVL.out; omega)⟩
   obtain ⟨b, off, e, hb, c0, c1⟩ := (HV.out.below HS.out.2.2.2.2).at hv
   subst e
   have k0 : (0 : Int) ≤ k := by omega
   have HKS := hide (chunksK_succ (l := rs.map ktell) hv)
   obtain ⟨y0, y1⟩ := v
   simp only at c0 c1 HKS
   have S1 := hide (HS.out.below ((Below.refl _ _).alloc (Nat.le_refl _) (.cells #[.int .i64 y0, .int .i64 y1] 99)))
   have d1 := cell_of_row _ _ 1 _ _ _ (heap_alloc_new wr (.cells #[.int .i64 y0, .int .i64 y1] 99))
   have d1' : (wr.alloc (.cells #[.int .i64 y0, .int .i64 y1] 99)).cell? ⟨wr.heap.size, 1, none⟩ = some (.int .i64 y1) := d1
   obtain ⟨x0, x1, x2, -, -⟩ := S1.out
   obtain ⟨X0, X1, X2, -, -⟩ := HS.out
   have CA := hide (iallAt ad len cap rs y1 (wr.alloc (.cells #[.int .i64 y0, .int .i64 y1] 99)) (by omega) (HK.out.below S1.out.2.2.2.2))
   have hal : (allT (rs.map ktell) y1).length = 16 := allT_len _ _
   obtain ⟨L, hL⟩ : ∃ L, allT (rs.map ktell) y1 = L := ⟨_, rfl⟩
   rw [hL] at CA hal HKS
   clear hv hL d1
   go_wp2_with fail
   refine CA.out.mono ?_
   rintro e w2 ⟨av, rfl, ao, b2⟩
   have S2 := hide (S1.out.below b2)
   obtain ⟨aa, ac, rfl, har⟩ := (Sli.of ao).form
   obtain ⟨ag, rfl, har1, har2⟩ := har (by omega)
   have S3 : Hid (CkIn w w2 z (.slice (some ⟨b, off, none⟩) vl vc) (.slice ad len cap) (.int .i64 nx) u3 l ag L) := by
    refine ⟨S2.out, fun k x hk => ?_, fun e => ?_, har2⟩
    ·rw [← addr_at]
     exact ao.cells (g := ag) rfl k _ (icells_get hk)
    ·have := (S1.out.2.2.2.1.lt ag e).2
     omega
   rw [hal]
   have HAL := hide hal
   clear ao b2 har CA S1 S2 x0 x1 x2 X0 X1 X2 HS d1' hal har1 har2
   go_wp2_with fail
   go_loopw [3, 21] (fun cv jv W => ∃ (j : Nat) (l2 : List Int), j ≤ 16 ∧ jv = .int .i64 j ∧ l2.length ≤ 16 * k + j ∧ Hid (l2 = l ++ (L.take j).filter (fun y => decide (1 ≤ y))) ∧ Hid (CkIn w W z (.slice (some ⟨b, off, none⟩) vl vc) (.slice ad len cap) (.int .i64 nx) cv l2 ag L)) (fun _ jv _ => 16 - (intOf jv).toNat)
   case atStart => exact ⟨0, l, Nat.zero_le _, rfl, by omega, (by simp : l = l ++ (L.take 0).filter _), S3⟩
   case round =>
    obtain ⟨j, l2, hj, rfl, hl2, HL2, HS2⟩ := hrel
    clear S3
    by_cases hjl : (j : Int) < 16
    ·obtain ⟨x, hx⟩ : ∃ x, L[j]? = some x := ⟨_, List.getElem?_eq_getElem (by have := HAL.out; omega)⟩
     have cx := HS2.out.2.1 j x hx
     have FT := hide (filter_takeC hx)
     have j0 : (0 : Int) ≤ j := by omega
     clear hx
     by_cases h1x : 1 ≤ x
     ·have HL3 : Hid (l2 ++ [x] = l ++ (L.take (j + 1)).filter (fun y => decide (1 ≤ y))) := by
       show _ = _
       rw [FT.out, if_pos h1x, ← List.append_assoc, ← HL2.out]
      have OW := hide (own_below HS2.out.1.2.2.2.1 ((Below.refl _ _).alloc (Nat.le_refl _) (.cells #[.int .i64 x] 3)))
      have HSZ : Hid (w.heap.size + 1 ≤ (wr.alloc (.cells #[.int .i64 x] 3)).heap.size) := by
       have := HS2.out.1.2.2.2.2.size
       show _ ≤ _
       simp
       omega
      go_wp2_with (at_builtin; refine wpList_append_own_at _ rfl _ _ 77 rfl (w.heap.size + 1) 3 i0 (.int .i64 0) 1 8 Tryz.underlying77 I0.out Y0.out Y1.out Y2.out rfl (by decide) _ _ _ rfl OW.out ⟨wr.heap.size, 0, none⟩ 1 1 [Value.int .i64 x] rfl rfl (one_cell _ _ _) (one_i64 _) ?c1 ?c2 ?c3 ?_)
      case c1 => unfold maxLen; omega
      case c2 => omega
      case c3 => exact HSZ.out
      intro u' y ho hg _ hu
      have NX := hide (HS2.out.snoc HZW.out.symm ho hg hu)
      have hl3 : (l2 ++ [x]).length ≤ 16 * k + (j + 1) := by simp; omega
      generalize l2 ++ [x] = l3 at HL3 NX hl3
      clear ho hg hu HS2 OW HSZ
      go_wp2
      go_roundw
      case rel => exact ⟨j + 1, l3, by omega, by go_num, hl3, HL3, NX⟩
      case measure => simp [intOf]; omega
     ·have HL3 : Hid (l2 = l ++ (L.take (j + 1)).filter (fun y => decide (1 ≤ y))) := by
       show _ = _
       rw [FT.out, if_neg h1x, List.append_nil, ← HL2.out]
      go_wp2
      go_roundw
      case rel => exact ⟨j + 1, l2, by omega, by go_num, by omega, HL3, HS2⟩
      case measure => simp [intOf]; omega
    ·have HL3 : Hid (l2 = chunksK (rs.map ktell) vs (k + 1)) := by
      show _ = _
      rw [HKS.out, ← HL.out, HL2.out, List.take_of_length_le (by have := HAL.out; omega)]
     have HS3 := hide HS2.out.1
     go_wp2
     go_roundw
     case rel => exact ⟨k + 1, l2, by omega, by go_num, by omega, HL3, HS3⟩
     case measure => simp [intOf]; omega
  ·have HE : Hid (l = chunksS ⟨vs, rs.map ktell, nx⟩) := by
    show _ = _
    rw [HL.out, chunksK, List.take_of_length_le (by have := HVL.out; omega)]
    rfl
   have FIN : Hid (wr.ownsRow w.heap.size 3 1 u3 (chunksS ⟨vs, rs.map ktell, nx⟩).length (icells (chunksS ⟨vs, rs.map ktell, nx⟩)) ∧ Below w.heap.size w wr) := by
    rw [← HE.out]
    exact ⟨own_lower HS.out.2.2.2.1 (by omega), HS.out.2.2.2.2⟩
   go_wp2
   go_ret
   exact ⟨_, rfl, FIN.out.1, FIN.out.2⟩
end Go.Proofs.YtcjgjkejhkhknacGreatDoor
namespace Go.Proofs.YtcjgjkejhkhknacGreatDoor
open Go.RowKit
open Go.ChangeMaps (setBlock heap_setBlock_same heap_setBlock_other)
section
variable {K α : Type} [DecidableEq K]
def atG (l : List (K × α)) (k : K) : Option α := (l.find? (fun p => decide (p.1 = k))).map (·.2)
def KeydG (l : List (K × α)) : Prop := l.Pairwise (fun a b => a.1 ≠ b.1)
def newG (l : List (K × α)) (k : K) (v : α) : List (K × α) := if (atG l k).isSome then l.map (fun p => if p.1 = k then (k, v) else p) else l ++ [(k, v)]
theorem atG_cons (p : K × α) (l : List (K × α)) (k : K) : atG (p :: l) k = if p.1 = k then some p.2 else atG l k := by
 unfold atG
 rw [List.find?_cons]
 by_cases h : p.1 = k <;> simp [h]
theorem atG_none {l : List (K × α)} {k : K} : atG l k = none ↔ ∀ p ∈ l, p.1 ≠ k := by
 induction l with
 | nil => simp [atG]
 | cons a l ih =>
  rw [atG_cons]
  by_cases h : a.1 = k
  ·simp [h]
  ·simp [h, ih]
theorem atG_mem {l : List (K × α)} {k : K} {v : α} (h : atG l k = some v) : (k, v) ∈ l := by
 induction l with
 | nil => simp [atG] at h
 | cons a l ih =>
  rw [atG_cons] at h
  by_cases e : a.1 = k
  ·rw [if_pos e] at h
   cases h
   subst e
   exact List.mem_cons_self
  ·rw [if_neg e] at h
   exact List.mem_cons_of_mem _ (ih h)
theorem mem_atG {l : List (K × α)} {k : K} {v : α} (hk : KeydG l) (h : (k, v) ∈ l) : atG l k = some v := by
 induction l with
 | nil => cases h
 | cons a l ih =>
  obtain ⟨q1, q2⟩ := List.pairwise_cons.1 hk
  rw [atG_cons]
  rcases List.mem_cons.1 h with e | e
  ·subst e; simp
  ·rw [if_neg (q1 _ e)]
   exact ih q2 e
theorem atG_snoc (l : List (K × α)) (k : K) (v : α) (x : K) : atG (l ++ [(k, v)]) x = (atG l x).or (if k = x then some v else none) := by
 induction l with
 | nil => rw [List.nil_append, atG_cons]; simp [atG]
 | cons a l ih =>
  rw [List.cons_append, atG_cons, atG_cons, ih]
  by_cases h : a.1 = x <;> simp [h]
theorem KeydG.snoc {l : List (K × α)} {k : K} {v : α} (h : KeydG l) (hn : atG l k = none) : KeydG (l ++ [(k, v)]) := by
 refine List.pairwise_append.2 ⟨h, List.pairwise_singleton _ _, ?_⟩
 intro a ha b hb
 rw [List.mem_singleton] at hb
 subst hb
 exact atG_none.1 hn a ha
theorem atG_set (l : List (K × α)) (k : K) (v : α) (x : K) : atG (l.map (fun p => if p.1 = k then (k, v) else p)) x = if x = k then (atG l k).map (fun _ => v) else atG l x := by
 induction l with
 | nil => simp [atG]
 | cons a l ih =>
  rw [List.map_cons, atG_cons, ih, atG_cons, atG_cons]
  by_cases h : a.1 = k
  ·by_cases hx : x = k
   ·subst hx; simp [h]
   ·have : ¬ k = x := fun e => hx e.symm
    simp [h, hx, this]
  ·by_cases hx : x = k
   ·subst hx; simp [h]
   ·simp [h, hx]
theorem atG_new (l : List (K × α)) (k : K) (v : α) (x : K) : atG (newG l k v) x = if x = k then some v else atG l x := by
 unfold newG
 cases h : atG l k with
 | none =>
  simp only [Option.isSome_none, Bool.false_eq_true, if_false]
  rw [atG_snoc]
  by_cases e : x = k
  ·subst e; simp [h]
  ·rw [if_neg e, if_neg (fun q => e q.symm)]; simp
 | some u =>
  simp only [Option.isSome_some, if_true]
  rw [atG_set, h]
  rfl
theorem KeydG.new {l : List (K × α)} {k : K} {v : α} (h : KeydG l) : KeydG (newG l k v) := by
 unfold newG
 cases e : atG l k with
 | none => simp only [Option.isSome_none, Bool.false_eq_true, if_false]; exact h.snoc e
 | some u =>
  simp only [Option.isSome_some, if_true]
  unfold KeydG
  rw [List.pairwise_map]
  refine h.imp ?_
  intro a b hab
  by_cases e1 : a.1 = k <;> by_cases e2 : b.1 = k
  ·exact absurd (e1.trans e2.symm) hab
  ·rw [if_pos e1, if_neg e2]; exact fun q => e2 q.symm
  ·rw [if_neg e1, if_pos e2]; exact e1
  ·rw [if_neg e1, if_neg e2]; exact hab
theorem setG_is {l : List (K × α)} {x : K} {j : Nat} {u : α} (v : α) (h : KeydG l) (hj : l[j]? = some (x, u)) : l.map (fun p => if p.1 = x then (x, v) else p) = l.set j (x, v) := by
 induction l generalizing j with
 | nil => simp at hj
 | cons a l ih =>
  obtain ⟨q1, q2⟩ := List.pairwise_cons.1 h
  rw [List.map_cons]
  cases j with
  | zero =>
   simp only [List.getElem?_cons_zero, Option.some.injEq] at hj
   subst hj
   rw [if_pos rfl, List.set_cons_zero]
   congr 1
   rw [List.map_congr_left (g := id)]
   ·simp
   ·intro p hp
    rw [if_neg (fun e => q1 p hp e.symm)]
    rfl
  | succ j =>
   rw [List.getElem?_cons_succ] at hj
   rw [if_neg (q1 _ (List.mem_of_getElem? hj)), List.set_cons_succ, ih q2 hj]
end
def MapG {K : Type} (en : K → Value) (w : World) (b : Nat) (l : List (K × Value)) : Prop := KeydG l ∧ ∃ es clock, w.heap[b]? = some (.map es clock) ∧ es.toList.map (fun e => (e.key, e.val)) = l.map (fun p => (en p.1, p.2))
structure KeysG {K : Type} (P : Program) (k : TypeId) (en : K → Value) (d : TypeDesc) : Prop where
 ty : P.underlying k = some d
 is : ∀ a, MapKept.IsKey d (en a)
 inj : ∀ a b, en a = en b → a = b
section
variable {K : Type} {P : Program} {t k e : TypeId} {en : K → Value} {d : TypeDesc} {w w' : World} {b : Nat} {l : List (K × Value)}
theorem MapG.lt (h : MapG en w b l) : b < w.heap.size := by
 obtain ⟨-, es, clock, h1, -⟩ := h
 exact (Array.getElem?_eq_some_iff.1 h1).1
theorem MapG.same (h : MapG en w b l) (e : w'.heap[b]? = w.heap[b]?) : MapG en w' b l := by
 obtain ⟨h0, es, clock, h1, h2⟩ := h
 exact ⟨h0, es, clock, e.trans h1, h2⟩
theorem MapG.below (h : MapG en w b l) (hb : Below w.heap.size w w') : MapG en w' b l := h.same (hb.block _ h.lt)
theorem MapG.grown {row : Option Nat} (h : MapG en w b l) (hg : w.grownBy w' row) (hn : some b ≠ row) : MapG en w' b l := h.same (hg.block _ h.lt hn)
theorem MapG.made (w : World) : MapG en (w.alloc (.map #[] 0)) w.heap.size [] := ⟨List.Pairwise.nil, #[], 0, heap_alloc_new w _, rfl⟩
theorem MapG.not_cells (h : MapG en w b l) {cs : Array Value} {e : TypeId} {z : Nat × Nat} (hc : w.heap[b]? = some (.cells cs e z)) : False := by
 obtain ⟨-, es, clock, h1, -⟩ := h
 rw [h1] at hc
 cases hc
end
section
variable {K : Type} [DecidableEq K] {P : Program} {t k e : TypeId} {en : K → Value} {d : TypeDesc} {w w' : World} {b : Nat} {l : List (K × Value)}
theorem findG {es : Array MapEntry} (hk : KeysG P k en d) (hd : KeydG l) (h : es.toList.map (fun e => (e.key, e.val)) = l.map (fun p => (en p.1, p.2))) (x : K) (w : World) :
 ((Instr.findKey k (en x) es.toList).run P w = .ok none w ∧ atG l x = none) ∨ ∃ j v, (Instr.findKey k (en x) es.toList).run P w = .ok (some (j, v)) w ∧ l[j]? = some (x, v) ∧ atG l x = some v := by
 have hks : ∀ y ∈ es.toList, MapKept.IsKey d y.key := by
  intro y hy
  have : (y.key, y.val) ∈ es.toList.map (fun e => (e.key, e.val)) := List.mem_map.2 ⟨y, hy, rfl⟩
  rw [h] at this
  obtain ⟨p, -, hp⟩ := List.mem_map.1 this
  have : y.key = en p.1 := (congrArg Prod.fst hp).symm
  rw [this]
  exact hk.is _
 rcases MapKept.findNow_spec (d := d) (k := en x) (hk.is x) es.toList 0 hks with ⟨h1, h2⟩ | ⟨j, e0, h1, h2, h3⟩
 ·refine .inl ⟨MapKept.run_findKey hk.ty h1, atG_none.2 fun p hp e => ?_⟩
  have : (en p.1, p.2) ∈ l.map (fun p => (en p.1, p.2)) := List.mem_map.2 ⟨p, hp, rfl⟩
  rw [← h] at this
  obtain ⟨y, hy, ey⟩ := List.mem_map.1 this
  refine h2 y hy ?_
  have := congrArg Prod.fst ey
  simp only at this
  rw [this, e]
 ·have e1 : (l.map (fun p => (en p.1, p.2)))[j]? = some (e0.key, e0.val) := by rw [← h, List.getElem?_map, h2]; rfl
  rw [List.getElem?_map] at e1
  cases hl : l[j]? with
  | none => rw [hl] at e1; cases e1
  | some p =>
   rw [hl] at e1
   simp only [Option.map_some, Option.some.injEq, Prod.mk.injEq] at e1
   obtain ⟨e1, e2⟩ := e1
   rw [h3] at e1
   have e1 := hk.inj _ _ e1
   have ep : p = (x, e0.val) := by rw [← e1, ← e2]
   refine .inr ⟨j, e0.val, by simpa using MapKept.run_findKey hk.ty h1, by rw [hl, ep], mem_atG hd ?_⟩
   rw [← ep]
   exact List.mem_of_getElem? hl
theorem MapG.look (h : MapG en w b l) (ht : P.underlying t = some (.map k e)) (hk : KeysG P k en d) {z : Value} (hz : (zeroValue e).run P w = .ok z w) (x : K) (c : Bool) :
 (Instr.lookup t (.map (some b)) (en x) c).run P w = .ok (if c then .tuple #[(atG l x).getD z, .bool (atG l x).isSome] else (atG l x).getD z) w := by
 obtain ⟨h0, es, clock, hb, h2⟩ := h
 have hc : ∀ em, (Instr.checkKey em 10000 k (en x)).run P w = .ok () w := fun em => MapKept.run_checkKey hk.ty (hk.is x) em 9999
 rcases findG hk h0 h2 x w with ⟨h1, h3⟩ | ⟨j, v, h1, -, h3⟩
 ·simp [Instr.lookup, run_underlying ht, MapKept.run_getObj_map hb, hc, h1, hz, h3, Result.andThen]
 ·simp [Instr.lookup, run_underlying ht, MapKept.run_getObj_map hb, hc, h1, h3, Result.andThen]
theorem MapG.new (h : MapG en w b l) (ht : P.underlying t = some (.map k e)) (hk : KeysG P k en d) (x : K) (v : Value) :
 ∃ w', (Instr.mapUpdate t (.map (some b)) (en x) v).run P w = .ok () w' ∧ MapG en w' b (newG l x v) ∧ w.grownBy w' (some b) ∧ w'.heap.size = w.heap.size := by
 obtain ⟨h0, es, clock, hb, h2⟩ := h
 have hc : ∀ em, (Instr.checkKey em 10000 k (en x)).run P w = .ok () w := fun em => MapKept.run_checkKey hk.ty (hk.is x) em 9999
 rcases findG hk h0 h2 x w with ⟨h1, h3⟩ | ⟨j, u, h1, hj, h3⟩
 ·refine ⟨setBlock w b (.map (es.push ⟨en x, v, clock⟩) (clock + 1)), ?_, ⟨h0.new, _, _, heap_setBlock_same hb _, ?_⟩, ?_, by simp [setBlock]⟩
  ·simp [Instr.mapUpdate, run_underlying ht, MapKept.run_getObj_map hb, hc, h1, MapKept.run_setObj_map _ hb, Result.andThen, setBlock]
  ·unfold newG
   rw [h3]
   simp [h2]
  ·exact ⟨rfl, rfl, rfl, by simp [setBlock], fun i _ hi => heap_setBlock_other hb _ (fun e1 => hi (by rw [e1]))⟩
 ·have e1 : newG l x v = l.set j (x, v) := by unfold newG; rw [h3]; exact setG_is v h0 hj
  have hjs : j < es.size := by
   have := congrArg List.length h2
   have q := (List.getElem?_eq_some_iff.1 hj).1
   simp only [List.length_map, Array.length_toList] at this
   omega
  obtain ⟨ej, hej⟩ : ∃ ej, es[j]? = some ej := ⟨_, Array.getElem?_eq_getElem hjs⟩
  have hkey : ej.key = en x := by
   have q : (es.toList.map (fun e => (e.key, e.val)))[j]? = some (ej.key, ej.val) := by rw [List.getElem?_map, Array.getElem?_toList, hej]; rfl
   rw [h2, List.getElem?_map, hj] at q
   simp only [Option.map_some, Option.some.injEq, Prod.mk.injEq] at q
   exact q.1.symm
  refine ⟨setBlock w b (.map (es.modify j fun e => { e with key := en x, val := v }) clock), ?_, ⟨h0.new, _, clock, heap_setBlock_same hb _, ?_⟩, ?_, by simp [setBlock]⟩
  ·have hst : (Instr.keyThatStays (en x) (en x)).run P w = .ok (en x) w := MapKept.run_keyThatStays (hk.is x)
   simp [Instr.mapUpdate, run_underlying ht, MapKept.run_getObj_map hb, hc, h1, hej, hkey, hst, MapKept.run_setObj_map _ hb, Result.andThen, setBlock]
  ·rw [e1, Array.toList_modify]
   apply List.ext_getElem?
   intro i
   have hi : (es.toList.map (fun e => (e.key, e.val)))[i]? = (l.map (fun p => (en p.1, p.2)))[i]? := by rw [h2]
   rw [List.getElem?_map, List.getElem?_map] at hi
   rw [List.getElem?_map, List.getElem?_map, List.getElem?_modify, List.getElem?_set]
   by_cases hij : j = i
   ·subst hij
    rw [if_pos rfl, if_pos (List.getElem?_eq_some_iff.1 hj).1, Array.getElem?_toList, hej]
    simp
   ·rw [if_neg hij]
    cases hq : es.toList[i]? with
    | none => rw [hq] at hi; simpa [hij] using hi
    | some y => rw [hq] at hi; simpa [hij] using hi
  ·exact ⟨rfl, rfl, rfl, by simp [setBlock], fun i _ hi => heap_setBlock_other hb _ (fun e1 => hi (by rw [e1]))⟩
end
def enI (a : Int) : Value := .int .i64 a
def enS (a : List UInt8) : Value := .string ⟨a.toArray⟩
theorem keysI : KeysG Tryz.prog 3 enI (.int .i64) := ⟨Tryz.underlying3, fun _ => rfl, fun a b h => by unfold enI at h; injection h⟩
theorem keysS : KeysG Tryz.prog 9 enS .string := ⟨Tryz.underlying9, fun _ => trivial, fun a b h => by
 unfold enS at h
 injection h with h
 have := congrArg (fun x : ByteArray => x.data.toList) h
 simpa using this⟩
end Go.Proofs.YtcjgjkejhkhknacGreatDoor
