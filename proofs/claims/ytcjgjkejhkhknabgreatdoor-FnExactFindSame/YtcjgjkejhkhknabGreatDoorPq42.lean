/-
  TkI2; TkIs; KcM; DigM; DMath; IMath; ImplW
-/
import Derived.Test.YtcjgjkejhkhknabGreatDoorPq21
import Derived.Test.YtcjgjkejhkhknabGreatDoorKnTo
import Derived.Test.YtcjgjkejhkhknabGreatDoorPq3
import Derived.Test.YtcjgjkejhkhknabGreatDoorPq18
import Derived.Test.YtcjgjkejhkhknabGreatDoorPq19
import Derived.Test.YtcjgjkejhkhknabGreatDoorPq23
import Derived.Test.YtcjgjkejhkhknabGreatDoorPq26
import Derived.Test.YtcjgjkejhkhknabGreatDoorPq0
import Derived.Laws.BitsAllLaws
/-
  What the laws hold: rows of numbers with marks from any number on; what a sweep leaves is within the laws' measure.
-/
namespace Go.Proofs.YtcjgjkejhkhknabGreatDoor
open Go.RowKit
open Words

/-- A row of numbers with the marks from k on. -/
def IsK (lo hi : Nat) (v : Value) (n k : Nat) : World → Prop := Sli 3 lo hi v n (mkFlat patI k n)
theorem IsK.loc (lo hi : Nat) (v : Value) (n k : Nat) : Loc lo hi (IsK lo hi v n k) := Sli.loc _ _ _ _ _ _
theorem tois_tk {w wi : World} {hs : List Hold} {a : Option Addr} {n cap : Nat} {l : List Int} (T : Tk w wi hs) (H : IRow w a n l) (hn : n ≤ 1048576) :
    Calls Tryz.prog 8 #[.slice a n cap] wi fun e w' => ∃ g : Nat, e = .returned (.slice (some ⟨g, 0, none⟩) n n) ∧ Tk w w' ((wi.heap.size, w'.heap.size, Sli 3 wi.heap.size w'.heap.size (.slice (some ⟨g, 0, none⟩) n n) n (icells l)) :: hs) ∧ wi.heap.size ≤ w'.heap.size := by
  refine (toIs_any a n cap l wi hn (H.below T.1)).mono ?_
  rintro e w' ⟨g, rfl, ho, hb⟩
  rw [H.1] at ho
  exact ⟨g, rfl, T.add hb (Sli.loc _ _ _ _ _ _) (Sli.of ho), hb.size⟩
theorem eqi_tk2 {w wi : World} {hs : List Hold} {a b : Value} {l : List Int} {n l1 h1 l2 h2 : Nat} (T : Tk w wi hs) (n1 n2 : Nat) (hn : l.length = n) (hm : n ≤ 1048576) (e1 : hs[n1]? = some (l1, h1, Sli 3 l1 h1 a n (icells l))) (e2 : hs[n2]? = some (l2, h2, Sli 3 l2 h2 b n (icells l))) :
    Calls Tryz.prog 11 #[a, b] wi fun e w' => e = .returned (.bool true) ∧ Tk w w' hs ∧ wi.heap.size ≤ w'.heap.size := by
  refine (eqIs_same a b l n l1 h1 l2 h2 wi hn (by omega) (T.get n1 e1) (T.get n2 e2)).mono ?_
  rintro e w' ⟨rfl, hb⟩
  exact ⟨rfl, T.below hb, hb.size⟩
theorem kkids_four {l : List Kn} (h : ∀ x ∈ l, x.kids.length = 4) : kkids l = 4 * l.length := by
  unfold kkids
  induction l with
  | nil => rfl
  | cons a l ih =>
    rw [List.map_cons, List.sum_cons, ih (fun x hx => h x (List.mem_cons_of_mem _ hx)), h a (List.mem_cons.2 (.inl rfl)), List.length_cons]
    omega
theorem arB_four {l : List Kn} (h : arB l = true) : ∀ x ∈ l, x.kids.length = 4 := fun x hx => by
  obtain ⟨i, hi⟩ := List.getElem?_of_mem hx
  exact knB_len (arB_at h hi)
/-- What is swept is no more than there was. -/
theorem sweep_ok {M : List Kn} {R : List Int} (h1 : M.length ≤ 1048576) (h2 : kkids M ≤ 1048576) : OkK (sweepL M R) := by
  unfold sweepL
  split
  · rename_i hb
    have ht := swB_ok hb
    have e1 := kkids_four (arB_four ht.1)
    have e2 := kkids_four (arB_four (sw_right ht))
    have := sw_less (l := M) (rs := R)
    exact OkK.of (by omega) (by omega)
  · exact OkK.of h1 h2
theorem kend_pos (M : List Kn) : 0 < kend 1 M := by rw [kend_eq]; omega
end Go.Proofs.YtcjgjkejhkhknabGreatDoor

/-
  What the laws hold: rows of numbers.
-/
namespace Go.Proofs.YtcjgjkejhkhknabGreatDoor
open Go.RowKit
open Words

/-- A row of numbers in the blocks lo to hi. -/
def IsH (lo hi : Nat) (v : Value) (n : Nat) (l : List Int) : World → Prop := Sli 3 lo hi v n (icells l)
theorem IsH.loc (lo hi : Nat) (v : Value) (n : Nat) (l : List Int) : Loc lo hi (IsH lo hi v n l) := Sli.loc _ _ _ _ _ _
/-- The same, marked. -/
def IsM (lo hi : Nat) (v : Value) (n : Nat) : World → Prop := Sli 3 lo hi v n (mkFlat patI 1 n)
theorem IsM.loc (lo hi : Nat) (v : Value) (n : Nat) : Loc lo hi (IsM lo hi v n) := Sli.loc _ _ _ _ _ _
theorem eqis_tk {w wi : World} {hs : List Hold} {a b : Value} {l : List Int} {n l1 h1 l2 h2 : Nat} (T : Tk w wi hs) (n1 n2 : Nat) (hn : l.length = n) (hm : n ≤ 1048576) (e1 : hs[n1]? = some (l1, h1, IsH l1 h1 a n l)) (e2 : hs[n2]? = some (l2, h2, IsH l2 h2 b n l)) :
    Calls Tryz.prog 11 #[a, b] wi fun e w' => e = .returned (.bool true) ∧ Tk w w' hs ∧ wi.heap.size ≤ w'.heap.size := by
  refine (eqIs_same a b l n l1 h1 l2 h2 wi hn (by omega) (T.get n1 e1) (T.get n2 e2)).mono ?_
  rintro e w' ⟨rfl, hb⟩
  exact ⟨rfl, T.below hb, hb.size⟩
end Go.Proofs.YtcjgjkejhkhknabGreatDoor

/-
  Chunks by their digest, in plain words.
-/
namespace Go.Proofs.YtcjgjkejhkhknabGreatDoor
open Words Sums Pack

/-- The first number that has a text. -/
def firstN (l : List (Int × List UInt8)) (t : List UInt8) : Int := ((l.find? fun p => decide (p.2 = t)).map (·.1)).getD 0
theorem firstN_nil (t : List UInt8) : firstN [] t = 0 := rfl
theorem firstN_cons (p : Int × List UInt8) (l : List (Int × List UInt8)) (t : List UInt8) : firstN (p :: l) t = if p.2 = t then p.1 else firstN l t := by
  unfold firstN
  rw [List.find?_cons]
  by_cases h : p.2 = t <;> simp [h]
theorem firstN_drop {l : List (Int × List UInt8)} {k : Nat} {p : Int × List UInt8} (t : List UInt8) (h : l[k]? = some p) : firstN (l.drop k) t = if p.2 = t then p.1 else firstN (l.drop (k + 1)) t := by
  obtain ⟨hk, e⟩ := List.getElem?_eq_some_iff.1 h
  rw [List.drop_eq_getElem_cons hk, firstN_cons, e]
theorem firstN_filter (dg : List UInt8 → List UInt8) (t : List UInt8) : ∀ l : List (Int × List UInt8), firstN (l.filter fun p => decide (dg p.2 = dg t)) t = firstN l t
  | [] => rfl
  | p :: l => by
    rw [List.filter_cons]
    by_cases h : dg p.2 = dg t
    · simp only [h, decide_true, if_true]
      rw [firstN_cons, firstN_cons, firstN_filter dg t l]
    · simp only [h, decide_false, Bool.false_eq_true, if_false]
      rw [firstN_cons, firstN_filter dg t l, if_neg (fun e => h (by rw [e]))]
/-- The chunks that have a text, as they are listed. -/
def keptL (M : List Fnd) (live : List Int) : List (Int × List UInt8) := live.filterMap fun c => (textP M c).map fun t => (c, t)
theorem same_first (M : List Fnd) (t : List UInt8) : ∀ live : List Int, sameP M live t = firstN (keptL M live) t
  | [] => rfl
  | c :: live => by
    have ih := same_first M t live
    unfold keptL at ih ⊢
    rw [sameP_cons, List.filterMap_cons]
    cases h : textP M c with
    | none => simp [ih]
    | some o =>
      simp only [Option.map_some]
      rw [firstN_cons, ih]
      simp
theorem kept_none {M : List Fnd} {live : List Int} {k : Nat} {c : Int} (hc : live[k]? = some c) (h : textP M c = none) : keptL M (live.take (k + 1)) = keptL M (live.take k) := by
  unfold keptL
  rw [List.take_add_one, hc, List.filterMap_append]
  simp [h]
theorem kept_some {M : List Fnd} {live : List Int} {k : Nat} {c : Int} {t : List UInt8} (hc : live[k]? = some c) (h : textP M c = some t) : keptL M (live.take (k + 1)) = keptL M (live.take k) ++ [(c, t)] := by
  unfold keptL
  rw [List.take_add_one, hc, List.filterMap_append]
  simp [h]
theorem unpack_len {t s : List UInt8} (h : unpackL t = some s) : s.length ≤ 64 := by
  unfold unpackL at h
  split at h
  · cases h
  · rename_i c r
    cases hx : (if c = 122 then (readT r.length r).bind plain else some r) with
    | none => rw [hx] at h; cases h
    | some o =>
      rw [hx] at h
      simp only [Option.bind_some] at h
      split at h
      · rename_i hp
        cases h
        unfold packL at hp
        split at hp
        · cases hp
        · omega
      · cases h
theorem text_len {M : List Fnd} {c : Int} {s : List UInt8} (h : textP M c = some s) : s.length ≤ 64 := by
  unfold textP at h
  cases hn : newP M c with
  | none => rw [hn] at h; cases h
  | some x => rw [hn] at h; exact unpack_len h
end Go.Proofs.YtcjgjkejhkhknabGreatDoor

/-
  The program's map of chunks by their digest.
-/
namespace Go.Proofs.YtcjgjkejhkhknabGreatDoor
open Go.RowKit
open Words Pack

def kccells (l : List (Int × List UInt8)) : List Value := l.flatMap fun p => [.int .i64 p.1, .string (BA p.2)]
theorem kccells_snoc (l : List (Int × List UInt8)) (p : Int × List UInt8) : kccells l ++ [.int .i64 p.1, .string (BA p.2)] = kccells (l ++ [p]) := by simp [kccells]
theorem kccells_at : ∀ (l : List (Int × List UInt8)) (i : Nat) (p : Int × List UInt8), l[i]? = some p → (kccells l)[i * 2]? = some (.int .i64 p.1) ∧ (kccells l)[i * 2 + 1]? = some (.string (BA p.2))
  | [], i, p, h => by simp at h
  | a :: l, i, p, h => by
    have e : kccells (a :: l) = [Value.int .i64 a.1, .string (BA a.2)] ++ kccells l := by simp [kccells]
    rw [e]
    cases i with
    | zero =>
      simp at h
      subst h
      exact ⟨rfl, rfl⟩
    | succ i =>
      rw [List.getElem?_cons_succ] at h
      obtain ⟨h1, h2⟩ := kccells_at l i p h
      rw [List.getElem?_append_right (by simp; omega), List.getElem?_append_right (by simp; omega)]
      simp only [List.length_cons, List.length_nil]
      rw [show (i + 1) * 2 - (0 + 1 + 1) = i * 2 by omega, show (i + 1) * 2 + 1 - (0 + 1 + 1) = i * 2 + 1 by omega]
      exact ⟨h1, h2⟩
theorem infoKc : (Tryz.prog.info? 102).map (fun i => (i.zero, i.size, i.bytes)) = some (some (.agg #[.int .i64 0, .string ⟨#[]⟩]), 2, 24) := by kernel_rfl
theorem tyCD : Tryz.prog.underlying 62 = some (.map 9 100) := Tryz.underlying62
theorem zeroKc (w : World) : (zeroValue 100).run Tryz.prog w = .ok (.slice none 0 0) w := by kernel_rfl

abbrev Dg := List (List UInt8 × (Value × List (Int × List UInt8)))
/-- At a digest: its row and what it tells. -/
def Dg.get (G : Dg) (d : List UInt8) : Value × List (Int × List UInt8) := (atG G d).getD (.slice none 0 0, [])
theorem atG_map {K α β : Type} [DecidableEq K] (f : α → β) (l : List (K × α)) (k : K) : atG (l.map fun p => (p.1, f p.2)) k = (atG l k).map f := by
  induction l with
  | nil => rfl
  | cons a l ih =>
    rw [List.map_cons, atG_cons, atG_cons, ih]
    by_cases h : a.1 = k <;> simp [h]
theorem newG_map {K α β : Type} [DecidableEq K] (f : α → β) (l : List (K × α)) (k : K) (v : α) : newG (l.map fun p => (p.1, f p.2)) k (f v) = (newG l k v).map fun p => (p.1, f p.2) := by
  unfold newG
  rw [atG_map]
  cases h : atG l k with
  | none => simp
  | some u =>
    simp only [Option.map_some, Option.isSome_some, if_true, List.map_map]
    apply List.map_congr_left
    intro p _
    simp only [Function.comp_apply]
    by_cases e : p.1 = k <;> simp [e]
theorem newG_mem {K α : Type} [DecidableEq K] {l : List (K × α)} {k : K} {v : α} {p : K × α} (h : p ∈ newG l k v) : p = (k, v) ∨ (p ∈ l ∧ p.1 ≠ k) := by
  unfold newG at h
  split at h
  · obtain ⟨a, ha, e⟩ := List.mem_map.1 h
    by_cases q : a.1 = k
    · rw [if_pos q] at e; exact .inl e.symm
    · rw [if_neg q] at e; subst e; exact .inr ⟨ha, q⟩
  · rename_i hn
    have hn : atG l k = none := by
      cases e : atG l k with
      | none => rfl
      | some u => rw [e] at hn; simp at hn
    rcases List.mem_append.1 h with h | h
    · exact .inr ⟨h, atG_none.1 hn p h⟩
    · rw [List.mem_singleton] at h; exact .inl h
theorem newG_pair {K α : Type} [DecidableEq K] {R : K × α → K × α → Prop} {l : List (K × α)} {k : K} {v : α} (hk : KeydG l) (h : l.Pairwise R) (h1 : ∀ p ∈ l, p.1 ≠ k → R (k, v) p ∧ R p (k, v)) : (newG l k v).Pairwise R := by
  unfold newG
  split
  · rw [List.pairwise_map]
    have h2 := h.and hk
    refine List.Pairwise.imp_of_mem ?_ h2
    intro a b ha hb ⟨hab, hne⟩
    by_cases e1 : a.1 = k <;> by_cases e2 : b.1 = k
    · exact absurd (e1.trans e2.symm) hne
    · rw [if_pos e1, if_neg e2]; exact (h1 b hb e2).1
    · rw [if_neg e1, if_pos e2]; exact (h1 a ha e1).2
    · rw [if_neg e1, if_neg e2]; exact hab
  · rename_i hn
    have hn : atG l k = none := by
      cases e : atG l k with
      | none => rfl
      | some u => rw [e] at hn; simp at hn
    refine List.pairwise_append.2 ⟨h, List.pairwise_singleton _ _, ?_⟩
    intro a ha b hb
    rw [List.mem_singleton] at hb
    subst hb
    exact (h1 a ha (atG_none.1 hn a ha)).2
/-- The map lies in block B, its rows in blocks of their own, all from lo on. -/
def DM (lo : Nat) (W : World) (B : Nat) (G : Dg) : Prop :=
  lo ≤ B ∧ MapG enS W B (G.map fun g => (g.1, g.2.1)) ∧ (∀ g ∈ G, W.ownsRow lo 102 2 g.2.1 g.2.2.length (kccells g.2.2)) ∧ G.Pairwise (fun a b => ∀ q, a.2.1.ownBlock = some q → b.2.1.ownBlock ≠ some q)
theorem DM.keyd {lo : Nat} {W : World} {B : Nat} {G : Dg} (h : DM lo W B G) : KeydG G := by
  have := h.2.1.1
  unfold KeydG at this ⊢
  rw [List.pairwise_map] at this
  exact this
theorem DM.below {lo : Nat} {W W' : World} {B : Nat} {G : Dg} (h : DM lo W B G) (b : Below W.heap.size W W') : DM lo W' B G :=
  ⟨h.1, h.2.1.below b, fun g hg => own_below (h.2.2.1 g hg) b, h.2.2.2⟩
theorem DM.made (w : World) : DM w.heap.size (w.alloc (.map #[] 0)) w.heap.size [] := ⟨Nat.le_refl _, MapG.made w, (fun g h => by cases h), List.Pairwise.nil⟩
theorem DM.look {lo : Nat} {W : World} {B : Nat} {G : Dg} (h : DM lo W B G) (d : List UInt8) : (Instr.lookup 62 (.map (some B)) (.string ⟨d.toArray⟩) false).run Tryz.prog W = .ok (G.get d).1 W := by
  have := h.2.1.look tyCD keysS (zeroKc W) d false
  rw [atG_map (fun v : Value × List (Int × List UInt8) => v.1)] at this
  rw [show (Value.string ⟨d.toArray⟩) = enS d from rfl, this]
  unfold Dg.get
  cases atG G d <;> rfl
theorem DM.own {lo : Nat} {W : World} {B : Nat} {G : Dg} (h : DM lo W B G) (d : List UInt8) : W.ownsRow lo 102 2 (G.get d).1 (G.get d).2.length (kccells (G.get d).2) := by
  unfold Dg.get
  cases e : atG G d with
  | none => exact World.ownsRow_nil _ _ _ _
  | some u => exact h.2.2.1 _ (atG_mem e)
theorem own_cells {W : World} {lo : Nat} {t : TypeId} {v : Value} {n s : Nat} {xs : List Value} (h : W.ownsRow lo t s v n xs) {q : Nat} (hq : v.ownBlock = some q) : ∃ cs z, W.heap[q]? = some (.cells cs t z) := by
  rcases h.2 with ⟨rfl, -⟩ | ⟨g, cap, cur, rfl, -, h4, -⟩
  · cases hq
  · cases hq
    exact ⟨_, _, h4⟩
/-- One more at a digest. -/
theorem DM.put {lo : Nat} {W W2 : World} {B : Nat} {G : Dg} (h : DM lo W B G) (d : List UInt8) {v' : Value} {xs : List (Int × List UInt8)} (hg : W.grownBy W2 (G.get d).1.ownBlock) (ho : W2.ownsRow lo 102 2 v' xs.length (kccells xs)) (hv : v'.ownBlock = (G.get d).1.ownBlock ∨ ∃ q, v'.ownBlock = some q ∧ W.heap.size ≤ q) :
    ∃ W3, (Instr.mapUpdate 62 (.map (some B)) (.string ⟨d.toArray⟩) v').run Tryz.prog W2 = .ok () W3 ∧ DM lo W3 B (newG G d (v', xs)) ∧ W2.grownBy W3 (some B) := by
  have hB : some B ≠ (G.get d).1.ownBlock := fun e => by
    obtain ⟨cs, z, q⟩ := own_cells (h.own d) e.symm
    exact h.2.1.not_cells q
  have hm := h.2.1.grown hg hB
  obtain ⟨W3, e1, e2, e3, -⟩ := hm.new tyCD keysS d v'
  rw [newG_map (fun v : Value × List (Int × List UInt8) => v.1) G d (v', xs)] at e2
  have far : ∀ g ∈ G, g.1 ≠ d → ∀ q, g.2.1.ownBlock = some q → (G.get d).1.ownBlock ≠ some q := by
    intro g hgm hne q hq e
    unfold Dg.get at e
    cases ha : atG G d with
    | none => rw [ha] at e; cases e
    | some u =>
      rw [ha] at e
      have hu := atG_mem ha
      obtain ⟨i, hi, ei⟩ := List.getElem_of_mem hgm
      obtain ⟨j, hj, ej⟩ := List.getElem_of_mem hu
      have hij : i ≠ j := fun q => by subst q; rw [ei] at ej; exact hne (by rw [ej])
      rcases Nat.lt_or_gt_of_ne hij with hlt | hlt
      · have := List.pairwise_iff_getElem.1 h.2.2.2 i j hi hj hlt q (by rw [ei]; exact hq)
        rw [ej] at this
        exact this e
      · have := List.pairwise_iff_getElem.1 h.2.2.2 j i hj hi hlt q (by rw [ej]; exact e)
        rw [ei] at this
        exact this hq
  have nb : ∀ {X : World} {u : Value} {n : Nat} {ys : List Value}, X.ownsRow lo 102 2 u n ys → MapG enS X B (G.map fun g => (g.1, g.2.1)) → u.ownBlock ≠ some B := by
    intro X u n ys hu hmx e
    obtain ⟨cs, z, q⟩ := own_cells hu e
    exact hmx.not_cells q
  refine ⟨W3, e1, ⟨h.1, e2, ?_, ?_⟩, e3⟩
  · intro g hgm
    rcases newG_mem hgm with rfl | ⟨hgm, hne⟩
    · exact ho.kept e3 (.inr (nb ho hm))
    · have h0 : g.2.1.ownBlock = none ∨ g.2.1.ownBlock ≠ (G.get d).1.ownBlock := by
        cases eo : g.2.1.ownBlock with
        | none => exact .inl rfl
        | some q => exact .inr (fun e => far g hgm hne q eo e.symm)
      have h1 := (h.2.2.1 g hgm).kept hg h0
      exact h1.kept e3 (.inr (nb h1 hm))
  · refine newG_pair h.keyd h.2.2.2 ?_
    intro p hp hne
    have hlt : ∀ q, p.2.1.ownBlock = some q → q < W.heap.size := fun q hq => ((h.2.2.1 p hp).lt q hq).2
    constructor
    · intro q hq e
      rcases hv with hv | ⟨z, hz, hz2⟩
      · rw [hv] at hq; exact far p hp hne q e hq
      · simp only at hq; rw [hz] at hq; cases hq; have := hlt _ e; omega
    · intro q hq e
      rcases hv with hv | ⟨z, hz, hz2⟩
      · simp only at e; rw [hv] at e; exact far p hp hne q hq e
      · simp only at e; rw [hz] at e; cases e; have := hlt _ hq; omega
/-- What the map tells: all that was kept, by its digest. -/
def DK (dg : List UInt8 → List UInt8) (G : Dg) (kept : List (Int × List UInt8)) : Prop := ∀ d, (G.get d).2 = kept.filter fun p => decide (dg p.2 = d)
theorem DK.put {dg : List UInt8 → List UInt8} {G : Dg} {kept : List (Int × List UInt8)} (h : DK dg G kept) (p : Int × List UInt8) (v' : Value) : DK dg (newG G (dg p.2) (v', (G.get (dg p.2)).2 ++ [p])) (kept ++ [p]) := by
  intro d
  unfold Dg.get
  rw [atG_new, List.filter_append]
  by_cases e : d = dg p.2
  · subst e
    rw [if_pos rfl]
    have := h (dg p.2)
    unfold Dg.get at this
    simp only [Option.getD_some]
    rw [this]
    simp
  · rw [if_neg e]
    have := h d
    unfold Dg.get at this
    rw [this]
    have e' : ¬ dg p.2 = d := fun q => e q.symm
    simp [e']
theorem DK.made (dg : List UInt8 → List UInt8) : DK dg [] [] := fun _ => rfl
end Go.Proofs.YtcjgjkejhkhknabGreatDoor

/-
  Plain facts on digests by words of 32 bits: no Go in them.
-/
namespace Go.Proofs.YtcjgjkejhkhknabGreatDoor.Dig

/-- A word turned right; low is a power of two. -/
def rt (x low : Nat) : Nat := x / low + x % low * (2147483648 / low * 2)
/-- The exclusive or of a word turned three times, or twice and shifted. -/
def sig (x a b c : Nat) (last : Bool) : Nat := rt x a ^^^ rt x b ^^^ (if last then x / c else rt x c)

theorem rt_lt (x low : Nat) (hx : x < 4294967296) (h0 : 0 < low) (h : low * (2147483648 / low * 2) = 4294967296) : rt x low < 4294967296 := by
  unfold rt
  generalize hH : 2147483648 / low * 2 = H at h
  have h1 : x % low < low := Nat.mod_lt _ h0
  have h2 : x / low < H := by
    rw [Nat.div_lt_iff_lt_mul h0, Nat.mul_comm]; omega
  have h3 : x % low + 1 ≤ low := h1
  have h4 : (x % low + 1) * H ≤ low * H := Nat.mul_le_mul_right _ h3
  rw [Nat.add_mul] at h4
  omega
theorem xor3_lt (x y z : Nat) (hx : x < 4294967296) (hy : y < 4294967296) (hz : z < 4294967296) : x ^^^ y ^^^ z < 4294967296 :=
  Nat.xor_lt_two_pow (n := 32) (Nat.xor_lt_two_pow (n := 32) hx hy) hz

/-- A number that a word may be turned by. -/
def Low (a : Nat) : Prop := 0 < a ∧ a * (2147483648 / a * 2) = 4294967296
theorem sig_lt (x a b c : Nat) (last : Bool) (hx : x < 4294967296) (ha : Low a) (hb : Low b) (hc : Low c) : sig x a b c last < 4294967296 := by
  unfold sig
  refine xor3_lt _ _ _ (rt_lt x a hx ha.1 ha.2) (rt_lt x b hx hb.1 hb.2) ?_
  cases last
  · exact rt_lt x c hx hc.1 hc.2
  · have := Nat.div_le_self x c
    simp only [if_true]
    omega

/-- The next word of a schedule. -/
def next (w : List Nat) : Nat :=
  (sig (w.getD (w.length - 2) 0) 131072 524288 1024 true + w.getD (w.length - 7) 0 + sig (w.getD (w.length - 15) 0) 128 262144 8 true + w.getD (w.length - 16) 0) % 4294967296
def sched : Nat → List Nat → List Nat
  | 0, w => w
  | n + 1, w => sched n w ++ [next (sched n w)]
theorem sched_len (n : Nat) (w : List Nat) : (sched n w).length = w.length + n := by
  induction n with
  | zero => rfl
  | succ n ih => simp [sched, ih]; omega
theorem sched_lt (n : Nat) (w : List Nat) (hw : ∀ x ∈ w, x < 4294967296) : ∀ x ∈ sched n w, x < 4294967296 := by
  induction n with
  | zero => exact hw
  | succ n ih =>
    intro x hx
    simp only [sched, List.mem_append, List.mem_singleton] at hx
    rcases hx with h | rfl
    · exact ih x h
    · exact Nat.mod_lt _ (by omega)

def ch (e f g : Nat) : Nat := (e &&& f) ^^^ ((4294967295 - e) &&& g)
def maj (a b c : Nat) : Nat := (a &&& b) ^^^ (a &&& c) ^^^ (b &&& c)
def t1 (e f g h k w : Nat) : Nat := (h + sig e 64 2048 33554432 false + ch e f g + k + w) % 4294967296
def t2 (a b c : Nat) : Nat := (sig a 4 8192 4194304 false + maj a b c) % 4294967296
/-- One of the 64 steps. -/
def step (v : List Nat) (k w : Nat) : List Nat :=
  match v with
  | [a, b, c, d, e, f, g, h] => [(t1 e f g h k w + t2 a b c) % 4294967296, a, b, c, (d + t1 e f g h k w) % 4294967296, e, f, g]
  | _ => []
def steps : Nat → List Nat → List Nat → List Nat → List Nat
  | 0, v, _, _ => v
  | n + 1, v, ks, ws => step (steps n v ks ws) (ks.getD n 0) (ws.getD n 0)
def joined (v u : List Nat) : List Nat := List.zipWith (fun x y => (x + y) % 4294967296) v u

def word (l : List UInt8) : Nat := (l.getD 0 0).toNat * 16777216 + (l.getD 1 0).toNat * 65536 + (l.getD 2 0).toNat * 256 + (l.getD 3 0).toNat
def wordsN : Nat → List UInt8 → List Nat
  | 0, _ => []
  | n + 1, l => wordsN n l ++ [word (l.drop (4 * n))]
def words (l : List UInt8) : List Nat := wordsN (l.length / 4) l
def ks : List Nat := [1116352408, 1899447441, 3049323471, 3921009573, 961987163, 1508970993, 2453635748, 2870763221, 3624381080, 310598401, 607225278, 1426881987, 1925078388, 2162078206, 2614888103, 3248222580, 3835390401, 4022224774, 264347078, 604807628, 770255983, 1249150122, 1555081692, 1996064986, 2554220882, 2821834349, 2952996808, 3210313671, 3336571891, 3584528711, 113926993, 338241895, 666307205, 773529912, 1294757372, 1396182291, 1695183700, 1986661051, 2177026350, 2456956037, 2730485921, 2820302411, 3259730800, 3345764771, 3516065817, 3600352804, 4094571909, 275423344, 430227734, 506948616, 659060556, 883997877, 958139571, 1322822218, 1537002063, 1747873779, 1955562222, 2024104815, 2227730452, 2361852424, 2428436474, 2756734187, 3204031479, 3329325298]
/-- A block mixed into a state. -/
def mix (st : List Nat) (block : List UInt8) : List Nat := joined st (steps 64 st ks (sched 48 (words block)))
def mixes : Nat → List Nat → List UInt8 → List Nat
  | 0, st, _ => st
  | n + 1, st, l => mix (mixes n st l) ((l.drop (64 * n)).take 64)
def bytesOf (st : List Nat) : List UInt8 := st.flatMap fun x => [UInt8.ofNat (x / 16777216), UInt8.ofNat (x / 65536 % 256), UInt8.ofNat (x / 256 % 256), UInt8.ofNat (x % 256)]
def first : List Nat := [1779033703, 3144134277, 1013904242, 2773480762, 1359893119, 2600822924, 528734635, 1541459225]

theorem wordsN_len (n : Nat) (l : List UInt8) : (wordsN n l).length = n := by
  induction n with
  | zero => rfl
  | succ n ih => simp [wordsN, ih]
theorem words_len (l : List UInt8) : (words l).length = l.length / 4 := wordsN_len _ _
theorem word_lt (l : List UInt8) : word l < 4294967296 := by
  unfold word
  have h : ∀ k, (l.getD k 0).toNat < 256 := fun k => by have := (l.getD k 0).toNat_lt; omega
  have := h 0; have := h 1; have := h 2; have := h 3
  omega
theorem wordsN_lt (n : Nat) (l : List UInt8) : ∀ x ∈ wordsN n l, x < 4294967296 := by
  induction n with
  | zero => intro x hx; cases hx
  | succ n ih =>
    intro x hx
    simp only [wordsN, List.mem_append, List.mem_singleton] at hx
    rcases hx with h | rfl
    · exact ih x h
    · exact word_lt _
theorem words_lt (l : List UInt8) : ∀ x ∈ words l, x < 4294967296 := wordsN_lt _ _

/-- A state: eight words. -/
def St (v : List Nat) : Prop := v.length = 8 ∧ ∀ x ∈ v, x < 4294967296
theorem St.open {v : List Nat} (h : St v) : ∃ a b c d e f g i, v = [a, b, c, d, e, f, g, i] ∧ a < 4294967296 ∧ b < 4294967296 ∧ c < 4294967296 ∧ d < 4294967296 ∧ e < 4294967296 ∧ f < 4294967296 ∧ g < 4294967296 ∧ i < 4294967296 := by
  obtain ⟨h1, h2⟩ := h
  match v, h1 with
  | [a, b, c, d, e, f, g, i], _ =>
    refine ⟨a, b, c, d, e, f, g, i, rfl, ?_, ?_, ?_, ?_, ?_, ?_, ?_, ?_⟩ <;> exact h2 _ (by simp)
theorem st_of (a b c d e f g i : Nat) (h1 : a < 4294967296) (h2 : b < 4294967296) (h3 : c < 4294967296) (h4 : d < 4294967296) (h5 : e < 4294967296) (h6 : f < 4294967296) (h7 : g < 4294967296) (h8 : i < 4294967296) : St [a, b, c, d, e, f, g, i] := by
  refine ⟨rfl, ?_⟩
  intro x hx
  simp at hx
  omega
theorem step_st {v : List Nat} (h : St v) (k w : Nat) : St (step v k w) := by
  obtain ⟨a, b, c, d, e, f, g, i, rfl, h1, h2, h3, h4, h5, h6, h7, h8⟩ := h.open
  exact st_of _ _ _ _ _ _ _ _ (Nat.mod_lt _ (by omega)) h1 h2 h3 (Nat.mod_lt _ (by omega)) h5 h6 h7
theorem steps_st {v : List Nat} (h : St v) (n : Nat) (ks ws : List Nat) : St (steps n v ks ws) := by
  induction n with
  | zero => exact h
  | succ n ih => exact step_st ih _ _
theorem joined_st {v u : List Nat} (h : St v) (k : St u) : St (joined v u) := by
  obtain ⟨a, b, c, d, e, f, g, i, rfl, -⟩ := h.open
  obtain ⟨a', b', c', d', e', f', g', i', rfl, -⟩ := k.open
  exact st_of _ _ _ _ _ _ _ _ (Nat.mod_lt _ (by omega)) (Nat.mod_lt _ (by omega)) (Nat.mod_lt _ (by omega)) (Nat.mod_lt _ (by omega)) (Nat.mod_lt _ (by omega)) (Nat.mod_lt _ (by omega)) (Nat.mod_lt _ (by omega)) (Nat.mod_lt _ (by omega))
theorem mix_st {st : List Nat} (h : St st) (b : List UInt8) : St (mix st b) := joined_st h (steps_st h _ _ _)
theorem mixes_st {st : List Nat} (h : St st) (n : Nat) (l : List UInt8) : St (mixes n st l) := by
  induction n with
  | zero => exact h
  | succ n ih => exact mix_st ih _
theorem first_st : St first := ⟨rfl, by decide⟩
theorem words_st (l : List UInt8) (h : l.length = 32) : St (words l) := ⟨by rw [words_len, h], words_lt l⟩
theorem bytesOf_len {st : List Nat} (h : St st) : (bytesOf st).length = 32 := by
  obtain ⟨a, b, c, d, e, f, g, i, rfl, -⟩ := h.open
  rfl
/-- The words of a state's bytes are the state. -/
theorem words_bytesOf {st : List Nat} (h : St st) : words (bytesOf st) = st := by
  obtain ⟨a, b, c, d, e, f, g, i, rfl, h1, h2, h3, h4, h5, h6, h7, h8⟩ := h.open
  have key : ∀ x : Nat, x < 4294967296 → ∀ r : List UInt8, word (UInt8.ofNat (x / 16777216) :: UInt8.ofNat (x / 65536 % 256) :: UInt8.ofNat (x / 256 % 256) :: UInt8.ofNat (x % 256) :: r) = x := by
    intro x hx r
    simp [word]
    omega
  have hl : (bytesOf [a, b, c, d, e, f, g, i]).length / 4 = 8 := by rw [bytesOf_len h]
  unfold words
  rw [hl]
  simp only [wordsN, bytesOf, List.flatMap_cons, List.flatMap_nil, List.nil_append, List.cons_append, List.append_nil, Nat.mul_zero, List.drop_zero]
  simp only [Nat.reduceMul, List.drop_succ_cons, List.drop_zero, key _ h1, key _ h2, key _ h3, key _ h4, key _ h5, key _ h6, key _ h7, key _ h8]
end Go.Proofs.YtcjgjkejhkhknabGreatDoor.Dig

/-
  Plain facts on words of 32 bits, shifted and joined: no Go in them.
-/
namespace Go.Proofs.YtcjgjkejhkhknabGreatDoor.Dig

theorem or_eq_xor_of_and (x y : Nat) (h : x &&& y = 0) : x ||| y = x ^^^ y := by
  apply Nat.eq_of_testBit_eq
  intro i
  have := congrArg (fun n => n.testBit i) h
  simp only [Nat.testBit_and, Nat.zero_testBit] at this
  rw [Nat.testBit_or, Nat.testBit_xor]
  cases hx : x.testBit i <;> cases hy : y.testBit i <;> simp_all

/-- A word turned right by so many bits, as shifts. -/
theorem rt_or (x b : Nat) (hx : x < 4294967296) (h0 : 0 < b) (h32 : b < 32) : (x * 2 ^ (32 - b) % 4294967296) ||| (x / 2 ^ b) = rt x (2 ^ b) := by
  have hp : 2 ^ b * 2 ^ (32 - b) = 4294967296 := by rw [← Nat.pow_add]; rw [show b + (32 - b) = 32 by omega]
  have hq : 2147483648 / 2 ^ b * 2 = 2 ^ (32 - b) := by
    have : (2147483648 : Nat) = 2 ^ 31 := rfl
    rw [this, Nat.pow_div (by omega) (by omega), ← Nat.pow_succ]
    congr 1; omega
  have hm : x * 2 ^ (32 - b) % 4294967296 = 2 ^ (32 - b) * (x % 2 ^ b) := by
    rw [← hp, Nat.mul_mod_mul_right, Nat.mul_comm]
  have hl : x / 2 ^ b < 2 ^ (32 - b) := by
    rw [Nat.div_lt_iff_lt_mul (Nat.two_pow_pos b), Nat.mul_comm, hp]; exact hx
  rw [hm, ← Nat.two_pow_add_eq_or_of_lt hl]
  unfold rt
  rw [hq, Nat.add_comm, Nat.mul_comm (2 ^ (32 - b))]

theorem not_bit (e i : Nat) (he : e < 4294967296) : (4294967295 - e).testBit i = (decide (i < 32) && !e.testBit i) := by
  have := Nat.testBit_two_pow_sub_succ (x := e) (n := 32) he i
  have h2 : 2 ^ 32 - (e + 1) = 4294967295 - e := by omega
  rw [h2] at this
  exact this
theorem ch_or (e f g : Nat) (he : e < 4294967296) : (e &&& f) ||| ((4294967295 - e) &&& g) = ch e f g := by
  apply or_eq_xor_of_and
  apply Nat.eq_of_testBit_eq
  intro i
  simp only [Nat.testBit_and, Nat.zero_testBit, not_bit e i he]
  cases e.testBit i <;> simp
theorem maj_or (a b c : Nat) : (a &&& b) ||| (a &&& c) ||| (b &&& c) = maj a b c := by
  apply Nat.eq_of_testBit_eq
  intro i
  simp only [maj, Nat.testBit_and, Nat.testBit_or, Nat.testBit_xor]
  cases a.testBit i <;> cases b.testBit i <;> cases c.testBit i <;> rfl
/-- Four bytes joined by bits are the word. -/
theorem four_or (c0 c1 c2 c3 : Nat) (h1 : c1 < 256) (h2 : c2 < 256) (h3 : c3 < 256) : c0 * 16777216 ||| c1 * 65536 ||| c2 * 256 ||| c3 = c0 * 16777216 + c1 * 65536 + c2 * 256 + c3 := by
  have e1 : c0 * 16777216 ||| c1 * 65536 = c0 * 16777216 + c1 * 65536 := by
    have := Nat.two_pow_add_eq_or_of_lt (i := 24) (b := c1 * 65536) (by omega) c0
    rw [Nat.mul_comm] at this; exact this.symm
  have e2 : (c0 * 16777216 + c1 * 65536) ||| c2 * 256 = c0 * 16777216 + c1 * 65536 + c2 * 256 := by
    have := Nat.two_pow_add_eq_or_of_lt (i := 16) (b := c2 * 256) (by omega) (c0 * 256 + c1)
    have e : 2 ^ 16 * (c0 * 256 + c1) = c0 * 16777216 + c1 * 65536 := by omega
    rw [e] at this; exact this.symm
  have e3 : (c0 * 16777216 + c1 * 65536 + c2 * 256) ||| c3 = c0 * 16777216 + c1 * 65536 + c2 * 256 + c3 := by
    have := Nat.two_pow_add_eq_or_of_lt (i := 8) (b := c3) (by omega) (c0 * 65536 + c1 * 256 + c2)
    have e : 2 ^ 8 * (c0 * 65536 + c1 * 256 + c2) = c0 * 16777216 + c1 * 65536 + c2 * 256 := by omega
    rw [e] at this; exact this.symm
  rw [e1, e2, e3]
end Go.Proofs.YtcjgjkejhkhknabGreatDoor.Dig

/-
  The walks of impl's words: turned, shifted, mixed, chosen.
-/
namespace Go.Proofs.YtcjgjkejhkhknabGreatDoor
open Go.RowKit
open Dig

/-- Numbers that words are turned by. -/
def Turn (b : Nat) : Prop := b = 17 ∨ b = 19 ∨ b = 7 ∨ b = 18 ∨ b = 6 ∨ b = 11 ∨ b = 25 ∨ b = 2 ∨ b = 13 ∨ b = 22

theorem rot_or (x b : Nat) (hx : x < 4294967296) (h0 : 0 < b) (h32 : b < 32) : bits .or .u32 ((x : Int) * 2 ^ (32 - b) % 4294967296) ((x : Int) / 2 ^ b) = (rt x (2 ^ b) : Nat) := by
  have e1 : (x : Int) * 2 ^ (32 - b) % 4294967296 = ((x * 2 ^ (32 - b) % 4294967296 : Nat) : Int) := by simp
  have e2 : (x : Int) / 2 ^ b = ((x / 2 ^ b : Nat) : Int) := by simp
  rw [e1, e2, u32_or_nat _ _ (Nat.mod_lt _ (by omega)) (Nat.lt_of_le_of_lt (Nat.div_le_self _ _) hx), rt_or x b hx h0 h32]

set_option maxHeartbeats 400000 in
theorem rot_any (x b : Nat) (w : World) (hx : x < 4294967296) (hb : Turn b) :
    Calls Tryz.prog 166 #[.int .u32 x, .int .i64 (-(b : Int))] w fun e w' => e = .returned (.int .u32 (rt x (2 ^ b) : Nat)) ∧ w' = w := by
  have E : Hid (bits .or .u32 ((x : Int) * 2 ^ (32 - b) % 4294967296) ((x : Int) / 2 ^ b) = (rt x (2 ^ b) : Nat)) := by
    refine rot_or x b hx ?_ ?_ <;> unfold Turn at hb <;> omega
  have m : bits .and .u64 (IntKind.u64.wrap (-(b : Int))) 31 = ((32 - b : Nat) : Int) := by
    unfold Turn at hb
    rcases hb with rfl | rfl | rfl | rfl | rfl | rfl | rfl | rfl | rfl | rfl <;> decide +kernel
  unfold Turn at hb
  rcases hb with rfl | rfl | rfl | rfl | rfl | rfl | rfl | rfl | rfl | rfl
  all_goals
    simp only [Nat.reduceSub, Int.cast_ofNat_Int] at m
    go_enter Tryz.func166, Tryz.ntmps166
    go_wp2
    go_ret
    exact ⟨congrArg (fun x => Ending.returned (Value.int .u32 x)) E.out, rfl⟩

theorem turned_any (x b : Nat) (w : World) (hx : x < 4294967296) (hb : Turn b) :
    Calls Tryz.prog 139 #[.int .u32 x, .int .i64 b] w fun e w' => e = .returned (.int .u32 (rt x (2 ^ b) : Nat)) ∧ w' = w := by
  have hb25 : b ≤ 25 := by unfold Turn at hb; omega
  have m : IntKind.i64.wrap (-(b : Int)) = -(b : Int) := by rw [IntKind.wrap_i64]; omega
  have C := hide (rot_any x b w hx hb)
  generalize rt x (2 ^ b) = y at C ⊢
  clear hb
  go_enter Tryz.func139, Tryz.ntmps139
  go_wp2_with fail
  refine C.out.mono ?_
  rintro e w1 ⟨rfl, rfl⟩
  go_wp2
  go_ret
  exact ⟨rfl, rfl⟩

/-- Numbers that words are shifted by. -/
def Shf (b : Nat) : Prop := b = 10 ∨ b = 3
theorem shifted_any (x b : Nat) (w : World) (hb : Shf b) :
    Calls Tryz.prog 165 #[.int .u32 x, .int .i64 b] w fun e w' => e = .returned (.int .u32 (x / 2 ^ b : Nat)) ∧ w' = w := by
  have E : Hid ((x : Int) / 2 ^ b = ((x / 2 ^ b : Nat) : Int)) := by show _ = _; simp
  unfold Shf at hb
  rcases hb with rfl | rfl
  all_goals
    go_enter Tryz.func165, Tryz.ntmps165
    go_wp2
    go_ret
    exact ⟨congrArg (fun x => Ending.returned (Value.int .u32 x)) E.out, rfl⟩

theorem low_pow (b : Nat) (hb : Turn b) : Low (2 ^ b) := by
  unfold Turn at hb
  rcases hb with rfl | rfl | rfl | rfl | rfl | rfl | rfl | rfl | rfl | rfl <;> exact ⟨by decide, by decide⟩
theorem rt_lt' (x b : Nat) (hx : x < 4294967296) (hb : Turn b) : rt x (2 ^ b) < 4294967296 := rt_lt x _ hx (low_pow b hb).1 (low_pow b hb).2

set_option maxHeartbeats 400000 in
theorem mixed_rt (x a b c : Nat) (w : World) (hx : x < 4294967296) (ha : Turn a) (hb : Turn b) (hc : Turn c) :
    Calls Tryz.prog 138 #[.int .u32 x, .int .i64 a, .int .i64 b, .int .i64 c, .func (.func 139) #[] #[]] w fun e w' => e = .returned (.int .u32 (rt x (2 ^ a) ^^^ rt x (2 ^ b) ^^^ rt x (2 ^ c) : Nat)) ∧ w' = w := by
  have la := rt_lt' x a hx ha
  have lb := rt_lt' x b hx hb
  have lc := rt_lt' x c hx hc
  have CA := hide (turned_any x a w hx ha)
  have CB := hide (turned_any x b w hx hb)
  have CC := hide (turned_any x c w hx hc)
  generalize rt x (2 ^ a) = ya at *
  generalize rt x (2 ^ b) = yb at *
  generalize rt x (2 ^ c) = yc at *
  have x1 := u32_xor_nat ya yb la lb
  have lab : ya ^^^ yb < 4294967296 := Nat.xor_lt_two_pow (n := 32) la lb
  generalize ya ^^^ yb = yab at *
  have x2 := u32_xor_nat yab yc lab lc
  clear ha hb hc
  go_enter Tryz.func138, Tryz.ntmps138
  go_wp2_with fail
  refine CA.out.mono ?_
  rintro e w1 ⟨rfl, rfl⟩
  go_wp2_with fail
  refine CB.out.mono ?_
  rintro e w2 ⟨rfl, rfl⟩
  go_wp2_with fail
  refine CC.out.mono ?_
  rintro e w3 ⟨rfl, rfl⟩
  go_wp2
  go_ret
  exact ⟨rfl, rfl⟩

set_option maxHeartbeats 400000 in
theorem mixed_sh (x a b c : Nat) (w : World) (hx : x < 4294967296) (ha : Turn a) (hb : Turn b) (hc : Shf c) :
    Calls Tryz.prog 138 #[.int .u32 x, .int .i64 a, .int .i64 b, .int .i64 c, .func (.func 165) #[] #[]] w fun e w' => e = .returned (.int .u32 (rt x (2 ^ a) ^^^ rt x (2 ^ b) ^^^ x / 2 ^ c : Nat)) ∧ w' = w := by
  have la := rt_lt' x a hx ha
  have lb := rt_lt' x b hx hb
  have lc : x / 2 ^ c < 4294967296 := Nat.lt_of_le_of_lt (Nat.div_le_self _ _) hx
  have CA := hide (turned_any x a w hx ha)
  have CB := hide (turned_any x b w hx hb)
  have CC := hide (shifted_any x c w hc)
  generalize rt x (2 ^ a) = ya at *
  generalize rt x (2 ^ b) = yb at *
  generalize x / 2 ^ c = yc at *
  have x1 := u32_xor_nat ya yb la lb
  have lab : ya ^^^ yb < 4294967296 := Nat.xor_lt_two_pow (n := 32) la lb
  generalize ya ^^^ yb = yab at *
  have x2 := u32_xor_nat yab yc lab lc
  clear ha hb hc
  go_enter Tryz.func138, Tryz.ntmps138
  go_wp2_with fail
  refine CA.out.mono ?_
  rintro e w1 ⟨rfl, rfl⟩
  go_wp2_with fail
  refine CB.out.mono ?_
  rintro e w2 ⟨rfl, rfl⟩
  go_wp2_with fail
  refine CC.out.mono ?_
  rintro e w3 ⟨rfl, rfl⟩
  go_wp2
  go_ret
  exact ⟨rfl, rfl⟩

theorem mixed_w2 (x : Nat) (w : World) (hx : x < 4294967296) : Calls Tryz.prog 138 #[.int .u32 x, .int .i64 17, .int .i64 19, .int .i64 10, .func (.func 165) #[] #[]] w fun e w' => e = .returned (.int .u32 (sig x 131072 524288 1024 true : Nat)) ∧ w' = w :=
  mixed_sh x 17 19 10 w hx (by unfold Turn; omega) (by unfold Turn; omega) (by unfold Shf; omega)
theorem mixed_w15 (x : Nat) (w : World) (hx : x < 4294967296) : Calls Tryz.prog 138 #[.int .u32 x, .int .i64 7, .int .i64 18, .int .i64 3, .func (.func 165) #[] #[]] w fun e w' => e = .returned (.int .u32 (sig x 128 262144 8 true : Nat)) ∧ w' = w :=
  mixed_sh x 7 18 3 w hx (by unfold Turn; omega) (by unfold Turn; omega) (by unfold Shf; omega)
theorem mixed_e (x : Nat) (w : World) (hx : x < 4294967296) : Calls Tryz.prog 138 #[.int .u32 x, .int .i64 6, .int .i64 11, .int .i64 25, .func (.func 139) #[] #[]] w fun e w' => e = .returned (.int .u32 (sig x 64 2048 33554432 false : Nat)) ∧ w' = w :=
  mixed_rt x 6 11 25 w hx (by unfold Turn; omega) (by unfold Turn; omega) (by unfold Turn; omega)
theorem mixed_a (x : Nat) (w : World) (hx : x < 4294967296) : Calls Tryz.prog 138 #[.int .u32 x, .int .i64 2, .int .i64 13, .int .i64 22, .func (.func 139) #[] #[]] w fun e w' => e = .returned (.int .u32 (sig x 4 8192 4194304 false : Nat)) ∧ w' = w :=
  mixed_rt x 2 13 22 w hx (by unfold Turn; omega) (by unfold Turn; omega) (by unfold Turn; omega)

theorem not_word (e : Nat) (he : e < 4294967296) : bits .xor .u32 IntKind.u32.max (e : Int) = 4294967295 - (e : Int) := by
  have h := u32_xor_nat 4294967295 e (by omega) he
  have hx : 4294967295 ^^^ e = 4294967295 - e := by
    apply Nat.eq_of_testBit_eq
    intro i
    rw [Nat.testBit_xor, not_bit e i he]
    have h1 : (4294967295 : Nat).testBit i = decide (i < 32) := Nat.testBit_two_pow_sub_one 32 i
    rw [h1]
    by_cases hi : i < 32
    · simp [hi]
    · have : e.testBit i = false := Nat.testBit_lt_two_pow (Nat.lt_of_lt_of_le he (show 2 ^ 32 ≤ 2 ^ i from Nat.pow_le_pow_right (by omega) (by omega)))
      simp [hi, this]
  have hm : IntKind.u32.max = ((4294967295 : Nat) : Int) := by decide
  rw [hm, h, hx]
  omega
theorem chosen_any (e f g : Nat) (w : World) (he : e < 4294967296) (hf : f < 4294967296) (hg : g < 4294967296) :
    Calls Tryz.prog 140 #[.int .u32 e, .int .u32 f, .int .u32 g] w fun en w' => en = .returned (.int .u32 (ch e f g : Nat)) ∧ w' = w := by
  have E := hide (ch_or e f g he)
  have hp : e &&& f < 4294967296 := Nat.lt_of_le_of_lt Nat.and_le_left he
  have hq : (4294967295 - e) &&& g < 4294967296 := Nat.lt_of_le_of_lt Nat.and_le_left (by omega)
  have a1 := u32_and_nat e f he hf
  have a2 := u32_and_nat (4294967295 - e) g (by omega) hg
  have a3 := u32_or_nat _ _ hp hq
  rw [E.out] at a3
  have n1 : ((4294967295 - e : Nat) : Int) = 4294967295 - (e : Int) := by omega
  rw [n1] at a2
  have n2 := not_word e he
  generalize e &&& f = p at *
  generalize (4294967295 - e) &&& g = q at *
  generalize ch e f g = r at *
  clear E
  go_enter Tryz.func140, Tryz.ntmps140
  go_wp2
  go_ret
  exact ⟨rfl, rfl⟩
theorem mostOf_any (a b c : Nat) (w : World) (ha : a < 4294967296) (hb : b < 4294967296) (hc : c < 4294967296) :
    Calls Tryz.prog 141 #[.int .u32 a, .int .u32 b, .int .u32 c] w fun en w' => en = .returned (.int .u32 (maj a b c : Nat)) ∧ w' = w := by
  have E := hide (maj_or a b c)
  have hp : a &&& b < 4294967296 := Nat.lt_of_le_of_lt Nat.and_le_left ha
  have hq : a &&& c < 4294967296 := Nat.lt_of_le_of_lt Nat.and_le_left ha
  have hr : b &&& c < 4294967296 := Nat.lt_of_le_of_lt Nat.and_le_left hb
  have a1 := u32_and_nat a b ha hb
  have a2 := u32_and_nat a c ha hc
  have a3 := u32_and_nat b c hb hc
  have a4 := u32_or_nat _ _ hp hq
  have hs : (a &&& b) ||| (a &&& c) < 4294967296 := Nat.or_lt_two_pow (n := 32) hp hq
  have a5 := u32_or_nat _ _ hs hr
  rw [E.out] at a5
  generalize (a &&& b) ||| (a &&& c) = s at *
  generalize a &&& b = p at *
  generalize a &&& c = q at *
  generalize b &&& c = r at *
  generalize maj a b c = m at *
  clear E
  go_enter Tryz.func141, Tryz.ntmps141
  go_wp2
  go_ret
  exact ⟨rfl, rfl⟩
end Go.Proofs.YtcjgjkejhkhknabGreatDoor
