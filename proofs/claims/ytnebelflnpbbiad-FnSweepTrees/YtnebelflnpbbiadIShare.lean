/-
  impl.SharedBy.
-/
import Derived.Test.YtnebelflnpbbiadITrees
import Derived.Test.YtnebelflnpbbiadSwMath
namespace Go.Proofs.Ytnebelflnpbbiad
open Go.RowKit
open Words

theorem bs_inj {bs : List Nat} (h : bs.Pairwise (· < ·)) {i j b : Nat} (hi : bs[i]? = some b) (hj : bs[j]? = some b) : i = j := by
  obtain ⟨i1, i2⟩ := List.getElem?_eq_some_iff.1 hi
  obtain ⟨j1, j2⟩ := List.getElem?_eq_some_iff.1 hj
  have hp := List.pairwise_iff_getElem.1 h
  by_cases e : i = j
  · exact e
  · by_cases l : i < j
    · have := hp i j i1 j1 l; omega
    · have := hp j i j1 i1 (by omega); omega
/-- The knots of a tree are those of the arena that it has. -/
theorem knP_mem {W : World} {b : Nat} {bs : List Nat} {L : List Kn} {r : Int} {x : Lk} (ha : arB L = true) (h : TreeAt W b bs L r) (ht : x.tos = (topOf L r).map (kidP bs)) (hp : x.place = r) (d : Nat) : d ∈ knP b x ↔ ∃ i, bs[i]? = some d ∧ hasB L r i = true := by
  rw [knP, knFold_mem, ht, hp]
  rcases h.2 with ⟨rfl, -⟩ | ⟨m, y, rfl, hb, hy, hl⟩
  · rw [if_pos rfl, topOf, if_pos (by omega)]
    constructor
    · rintro (h | h)
      · cases h
      · simp [kidP] at h
    · rintro ⟨i, -, h⟩
      rw [has_none (by omega)] at h
      cases h
  · rw [if_neg (by omega), topOf, if_neg (by omega), Int.toNat_natCast, hy]
    simp only [Option.map_some, Option.getD_some, List.mem_singleton, List.mem_map]
    constructor
    · rintro (rfl | ⟨n, hn, he⟩)
      · exact ⟨m, hb, (has_iff (by omega)).2 (.inl rfl)⟩
      · obtain ⟨h0, h1⟩ := kidP_at he
        obtain ⟨k, hk⟩ := List.getElem?_of_mem hn
        have hk4 := (List.getElem?_eq_some_iff.1 hk).1
        rw [knB_len (arB_at ha hy)] at hk4
        exact ⟨n.toNat, h1, (has_iff (by omega)).2 (.inr ⟨k, hk4, by rw [kidAt_some (by rw [Int.toNat_natCast]; exact hy) hk]; omega⟩)⟩
    · rintro ⟨i, hi, hh⟩
      rcases (has_iff (by omega)).1 hh with e | ⟨k, hk, e⟩
      · left
        have : m = i := by omega
        subst this
        rw [hb] at hi
        exact (Option.some.inj hi).symm
      · right
        obtain ⟨n, hn, hc⟩ := inner_kid ha (r := (m : Int)) (by rw [Int.toNat_natCast]; exact hy) hl hk
        rw [kidAt_some (by rw [Int.toNat_natCast]; exact hy) hn] at e
        refine ⟨n, List.mem_of_getElem? hn, ?_⟩
        rw [kidP, if_neg (by omega), e, Int.toNat_natCast]
        exact hi
theorem knP_nodup (b : Nat) (x : Lk) : (knP b x).Nodup := by
  refine knFold_nodup ?_
  split <;> simp
theorem share_is {bs : List Nat} {L : List Kn} {r s : Int} {K0 K1 : List Nat} (hb : bs.Pairwise (· < ·)) (hl : bs.length = L.length) (hn : K0.Nodup) (h0 : ∀ d, d ∈ K0 ↔ ∃ i, bs[i]? = some d ∧ hasB L r i = true) (h1 : ∀ d, d ∈ K1 ↔ ∃ i, bs[i]? = some d ∧ hasB L s i = true) : K0.countP (fun d => decide (d ∈ K1)) = shareN L r s := by
  rw [List.countP_eq_length_filter, shareN, List.countP_eq_length_filter]
  have e : ((List.range L.length).filter (fun i => hasB L r i && hasB L s i)).length = (((List.range L.length).filter (fun i => hasB L r i && hasB L s i)).map (fun i => (bs[i]?).getD 0)).length := by rw [List.length_map]
  rw [e]
  refine List.Perm.length_eq ((List.perm_ext_iff_of_nodup (hn.filter _) ?_).2 ?_)
  · refine List.pairwise_map.2 ?_
    have hr : ((List.range L.length).filter (fun i => hasB L r i && hasB L s i)).Nodup := List.nodup_range.filter _
    refine List.Pairwise.imp_of_mem ?_ hr
    intro a c ha hc hne
    have ha2 := List.mem_range.1 (List.mem_filter.1 ha).1
    have hc2 := List.mem_range.1 (List.mem_filter.1 hc).1
    rw [List.getElem?_eq_getElem (by omega), List.getElem?_eq_getElem (by omega)]
    intro q
    simp only [Option.getD_some] at q
    exact hne (bs_inj hb (List.getElem?_eq_getElem (by omega)) (by rw [q]; exact List.getElem?_eq_getElem (by omega)))
  · intro d
    rw [List.mem_filter, List.mem_map, h0, decide_eq_true_eq, h1]
    constructor
    · rintro ⟨⟨i, hi, hr⟩, ⟨j, hj, hs⟩⟩
      have := bs_inj hb hi hj
      subst this
      have hil := (List.getElem?_eq_some_iff.1 hi).1
      exact ⟨i, List.mem_filter.2 ⟨List.mem_range.2 (by omega), by rw [hr, hs]; rfl⟩, by rw [hi]; rfl⟩
    · rintro ⟨i, hi, rfl⟩
      obtain ⟨h2, h3⟩ := List.mem_filter.1 hi
      have h2 := List.mem_range.1 h2
      rw [Bool.and_eq_true] at h3
      have hg : bs[i]? = some ((bs[i]?).getD 0) := by rw [List.getElem?_eq_getElem (by omega)]; rfl
      exact ⟨⟨i, hg, h3.1⟩, ⟨i, hg, h3.2⟩⟩
/-- The knots of a tree that the program tells. -/
theorem iknotsT (b : Nat) (bs : List Nat) (L : List Kn) (r : Int) (w : World) (ha : arB L = true) (h : TreeAt w b bs L r) :
    Calls Try.prog 29 #[ptr b] w fun e w' => ∃ v K, e = .returned v ∧ KwSt w w' v K ∧ K.Nodup ∧ K.length ≤ 5 ∧ ∀ d, d ∈ K ↔ ∃ i, bs[i]? = some d ∧ hasB L r i = true := by
  obtain ⟨x, hat, -, ht, hp⟩ := h.lk
  refine (iknots b x w hat (fun c hc => ?_)).mono ?_
  · rw [ht, List.mem_map] at hc
    obtain ⟨n, -, he⟩ := hc
    obtain ⟨-, h1⟩ := kidP_at he
    have hl := (List.getElem?_eq_some_iff.1 h1).1
    exact ⟨_, h.1.2 _ c _ h1 (List.getElem?_eq_getElem (by rw [← h.1.1]; exact hl))⟩
  · rintro e w' ⟨v, rfl, hk⟩
    refine ⟨v, knP b x, rfl, hk, knP_nodup b x, ?_, knP_mem ha h ht hp⟩
    have : ∀ (l : List (Option Nat)) (a : List Nat), (l.foldl knStep a).length ≤ a.length + l.length := by
      intro l
      induction l with
      | nil => intro a; simp
      | cons o l ih =>
        intro a
        have h1 := ih (knStep a o)
        have h2 := knStep_len a o
        rw [List.foldl_cons, List.length_cons]
        omega
    have h1 := this x.tos (if x.place = -1 then [] else [b])
    rw [hat.2.2] at h1
    have h2 : (if x.place = -1 then [] else [b] : List Nat).length ≤ 1 := by split <;> simp
    show (x.tos.foldl knStep _).length ≤ 5
    omega

def SameW (W w : World) : Prop := W = w
end Go.Proofs.Ytnebelflnpbbiad
