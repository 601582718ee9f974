/-
  ITrees; IShare; SwpM
-/
import Derived.Test.YtcnaahajaaifjacGreatIPut
import Derived.Test.YtcnaahajaaifjacGreatIKnots
import Derived.Test.YtcnaahajaaifjacGreatPk8
/-
  impl's forests: the trees of some roots.
-/
namespace Go.Proofs.YtcnaahajaaifjacGreat
open Go.RowKit
open Words

/-- Trees, each in its block. -/
def TrsAt (W : World) (bs : List Nat) (L : List Kn) (ts : List Nat) (rs : List Int) : Prop := ts.length = rs.length ∧ ∀ (i t : Nat) (r : Int), ts[i]? = some t → rs[i]? = some r → TreeAt W t bs L r
theorem TrsAt.below {W W' : World} {bs ts : List Nat} {L : List Kn} {rs : List Int} (h : TrsAt W bs L ts rs) (hb : Below W.heap.size W W') : TrsAt W' bs L ts rs := ⟨h.1, fun i t r h1 h2 => (h.2 i t r h1 h2).below hb⟩
theorem TreeAt.grown {W y : World} {b : Nat} {bs : List Nat} {L : List Kn} {r : Int} {row : Option Nat} (h : TreeAt W b bs L r) (hg : W.grownBy y row) (hr : ∀ g, row = some g → ∃ cs, W.heap[g]? = some (.cells cs 113 (0, 0))) : TreeAt y b bs L r := by
  refine ⟨h.1.grown hg hr, ?_⟩
  rcases h.2 with ⟨e, hx⟩ | q
  · refine .inl ⟨e, (hg.block b hx.lt (fun e => ?_)).trans hx.1, hx.2⟩
    obtain ⟨cs, q⟩ := hr b e.symm
    rw [hx.1] at q
    injection q with q
    injection q with _ q
    simp at q
  · exact .inr q
/-- The trees under way. -/
def TSt (w W : World) (m : Nat) (bs : List Nat) (L : List Kn) (rs : List Int) (ts : List Nat) : Prop :=
  W.ownsRow w.heap.size 113 1 (.slice (some ⟨w.heap.size, 0, none⟩) m m) m (bcellsP ts ++ List.replicate (m - ts.length) (.pointer none)) ∧ (∀ (i t : Nat) (r : Int), ts[i]? = some t → rs[i]? = some r → TreeAt W t bs L r ∧ (r = -1 → w.heap.size ≤ t)) ∧ rs.take ts.length = (rs.take ts.length).filter (rootB L) ∧ Below w.heap.size w W
/-- What treesAt answers. -/
def TsOut (w : World) (bs : List Nat) (L : List Kn) (rs : List Int) (e : Ending) (w' : World) : Prop :=
  Below w.heap.size w w' ∧ ((rs.all (rootB L) = true ∧ ∃ ts c, e = .returned (.tuple #[.slice (some ⟨w.heap.size, 0, none⟩) rs.length c, .bool true]) ∧ w'.ownsRow w.heap.size 113 1 (.slice (some ⟨w.heap.size, 0, none⟩) rs.length c) ts.length (bcellsP ts) ∧ TrsAt w' bs L ts rs ∧ ∀ (i t : Nat), ts[i]? = some t → rs[i]? = some (-1) → w.heap.size ≤ t) ∨ (rs.all (rootB L) = false ∧ e = .returned (.tuple #[.slice none 0 0, .bool false])))

set_option maxHeartbeats 1000000 in
set_option maxRecDepth 100000 in
theorem itreesAt (fa : Option Addr) (n c : Nat) (bs : List Nat) (L : List Kn) (ra : Option Addr) (m rc : Nat) (rs : List Int) (w : World) (hm : m ≤ 1048576) (hr : PRow w fa n bs) (hf : FAt w bs (lksOf bs L)) (hk : IRow w ra m rs) :
    Calls Tryz.prog 78 #[.slice fa n c, .slice ra m rc] w (TsOut w bs L rs) := by
  obtain ⟨i0, hi, hz0, hz1, hz2⟩ := info_parts infoPt
  have HR := hide hr
  have HF := hide hf
  have HK := hide hk
  have HM := hide hk.1
  clear hr hf hk
  go_enter Tryz.func78, Tryz.ntmps78
  go_wp2_with (at_make; refine wpList_make_full _ rfl _ _ 106 rfl w.heap.size 113 i0 (.pointer none) 1 Tryz.underlying106 hi hz0 hz1 .i64 .i64 _ _ m rfl rfl rfl rfl (by rw [hz2]; omega) (by unfold maxLen; omega) (Nat.le_refl _) ?_)
  intro w1 hown hgrow
  rw [toList_madeCells_one] at hown
  have BG : Below w.heap.size w w1 := (Below.refl _ _).grown hgrow (Nat.le_refl _) (fun k hk => by cases hk)
  have S0 : Hid (TSt w w1 m bs L rs []) := ⟨hown, (fun i t r h => by simp at h), by simp, BG⟩
  clear hown hgrow BG hi hz0 hz1 hz2
  go_wp2
  go_loopw [14] (fun iv W => ∃ (k : Nat) (ts : List Nat), k ≤ m ∧ iv = .int .i64 k ∧ Hid (ts.length = k) ∧ Hid (TSt w W m bs L rs ts)) (fun iv _ => m - (intOf iv).toNat)
  case atStart => exact ⟨0, [], Nat.zero_le _, rfl, rfl, S0⟩
  case round =>
    obtain ⟨k, ts, hk, rfl, HTL, HS⟩ := hrel
    clear S0
    by_cases hlt : (k : Int) < m
    · obtain ⟨r, hr⟩ : ∃ r, rs[k]? = some r := ⟨_, List.getElem?_eq_getElem (by have := HM.out; omega)⟩
      have HW : Hid (Below w.heap.size w wr) := HS.out.2.2.2
      obtain ⟨rb, ro, e, -, hrc⟩ := (HK.out.below HW.out).at hr
      subst e
      have k0 : (0 : Int) ≤ k := by omega
      have HRR := hide hr
      clear hr
      go_wp2_with fail
      refine (ftree fa n c bs L r wr (HR.out.below HW.out) (HF.out.below HW.out)).mono ?_
      rintro e w2 ⟨b2, h2⟩
      have B2 := hide b2
      have OW2 := hide (own_below HS.out.1 b2)
      have gl := (own_kind OW2.out w.heap.size rfl).2.1
      have oc : w2.cell? ⟨w.heap.size, k, none⟩ = some (.pointer none) := by
        rw [← addr_at]
        refine OW2.out.cells (g := w.heap.size) rfl k _ ?_
        rw [List.getElem?_append_right (by rw [bcellsP_len, HTL.out]; exact Nat.le_refl _), bcellsP_len, HTL.out, Nat.sub_self, List.getElem?_replicate, if_pos (by omega)]
      have of : w2.frozen? ⟨w.heap.size, k, none⟩ = false := by
        obtain ⟨-, -, cs, q⟩ := own_kind OW2.out w.heap.size rfl
        exact frozen_of_row _ _ k _ _ q
      clear b2
      rcases h2 with ⟨hR, b, rfl, hT, hlo⟩ | ⟨hR, rfl⟩
      · have NX : Hid (TSt w (w2.setCell ⟨w.heap.size, k, none⟩ (.pointer (some ⟨b, 0, none⟩))) m bs L rs (ts ++ [b])) := by
          obtain ⟨-, -, cs, q⟩ := own_kind OW2.out w.heap.size rfl
          have hgr := grown_cell w2 w.heap.size k (.pointer (some ⟨b, 0, none⟩))
          have hrk : ∀ g, some w.heap.size = some g → ∃ cs, w2.heap[g]? = some (.cells cs 113 (0, 0)) := fun g e => by cases e; exact ⟨cs, q⟩
          have hlt2 : (ts ++ [b]).length = k + 1 := by rw [List.length_append, HTL.out]; rfl
          refine ⟨?_, ?_, ?_, ((HW.out.trans (B2.out.mono HW.out.size)).setCell (p := ⟨w.heap.size, k, none⟩) (Nat.le_refl _) _)⟩
          · have := fown_set OW2.out rfl k (.pointer (some ⟨b, 0, none⟩))
            rw [HTL.out, zeros_set _ _ _ _ _ (by rw [bcellsP_len, HTL.out]) (by omega)] at this
            rw [hlt2, ← bcellsP_snoc]
            exact this
          · intro i t r' h1 h3
            by_cases hi : i < ts.length
            · rw [List.getElem?_append_left hi] at h1
              exact ⟨((HS.out.2.1 i t r' h1 h3).1.below B2.out).grown hgr hrk, (HS.out.2.1 i t r' h1 h3).2⟩
            · have hil := (List.getElem?_eq_some_iff.1 h1).1
              rw [hlt2] at hil
              have e : i = ts.length := by have := HTL.out; omega
              subst e
              simp at h1
              subst h1
              rw [HTL.out, HRR.out] at h3
              cases h3
              exact ⟨hT.grown hgr hrk, fun e => by have := hlo e; have := HW.out.size; omega⟩
          · rw [hlt2, List.take_add_one, HRR.out, List.filter_append]
            have := HS.out.2.2.1
            rw [HTL.out] at this
            rw [← this]
            simp [hR]
        have NL : Hid ((ts ++ [b]).length = k + 1) := by show _ = _; rw [List.length_append, HTL.out]; rfl
        have oc3 : (w2.setCell ⟨w.heap.size, k, none⟩ (.pointer (some ⟨b, 0, none⟩))).cell? ⟨w.heap.size, k, none⟩ = some (.pointer (some ⟨b, 0, none⟩)) := World.cell?_setCell_same _ _ _ oc
        generalize ts ++ [b] = ts2 at NX NL
        unfold ptr
        clear hT hR HS HTL OW2 B2 HW
        go_wp2
        go_roundw
        case rel => exact ⟨k + 1, ts2, by omega, by go_num, NL, NX⟩
        case measure => simp [intOf]; omega
      · have oc3 : (w2.setCell ⟨w.heap.size, k, none⟩ (.pointer none)).cell? ⟨w.heap.size, k, none⟩ = some (.pointer none) := World.cell?_setCell_same _ _ _ oc
        have FIN : Hid (TsOut w bs L rs (.returned (.tuple #[.slice none 0 0, .bool false])) (w2.setCell ⟨w.heap.size, k, none⟩ (.pointer none))) := by
          refine ⟨(HW.out.trans (B2.out.mono HW.out.size)).setCell (p := ⟨w.heap.size, k, none⟩) (Nat.le_refl _) _, .inr ⟨?_, rfl⟩⟩
          rw [List.all_eq_false]
          exact ⟨r, List.mem_of_getElem? HRR.out, by rw [hR]; decide⟩
        clear hR HS HTL OW2 B2 HW
        go_wp2
        go_ret2
        exact FIN.out
    · have ek : k = m := by omega
      subst ek
      have FIN : Hid (TsOut w bs L rs (.returned (.tuple #[.slice (some ⟨w.heap.size, 0, none⟩) k k, .bool true])) wr) := by
        obtain ⟨h1, h2, h3, h4⟩ := HS.out
        have hrl := HM.out
        have htl := HTL.out
        refine ⟨h4, .inl ⟨?_, ts, k, by rw [hrl], ?_, ⟨by omega, fun i t r q1 q2 => (h2 i t r q1 q2).1⟩, fun i t q1 q2 => (h2 i t _ q1 q2).2 rfl⟩⟩
        · rw [htl, List.take_of_length_le (by omega)] at h3
          rw [List.all_eq_true]
          intro r hr
          rw [h3] at hr
          exact (List.mem_filter.1 hr).2
        · rw [htl, Nat.sub_self, List.replicate_zero, List.append_nil] at h1
          rw [hrl, htl]
          exact h1
      clear HS
      go_wp2
      go_ret2
      exact FIN.out
end Go.Proofs.YtcnaahajaaifjacGreat

/-
  impl.SharedBy.
-/
namespace Go.Proofs.YtcnaahajaaifjacGreat
open Go.RowKit
open Words

theorem bs_inj {bs : List Nat} (h : bs.Pairwise (· < ·)) {i j b : Nat} (hi : bs[i]? = some b) (hj : bs[j]? = some b) : i = j := by
  obtain ⟨i1, i2⟩ := List.getElem?_eq_some_iff.1 hi
  obtain ⟨j1, j2⟩ := List.getElem?_eq_some_iff.1 hj
  have hp := List.pairwise_iff_getElem.1 h
  by_cases e : i = j
  · exact e
  · by_cases l : i < j
    · have := hp i j i1 j1 l; omega
    · have := hp j i j1 i1 (by omega); omega
/-- The knots of a tree are those of the arena that it has. -/
theorem knP_mem {W : World} {b : Nat} {bs : List Nat} {L : List Kn} {r : Int} {x : Lk} (ha : arB L = true) (h : TreeAt W b bs L r) (ht : x.tos = (topOf L r).map (kidP bs)) (hp : x.place = r) (d : Nat) : d ∈ knP b x ↔ ∃ i, bs[i]? = some d ∧ hasB L r i = true := by
  rw [knP, knFold_mem, ht, hp]
  rcases h.2 with ⟨rfl, -⟩ | ⟨m, y, rfl, hb, hy, hl⟩
  · rw [if_pos rfl, topOf, if_pos (by omega)]
    constructor
    · rintro (h | h)
      · cases h
      · simp [kidP] at h
    · rintro ⟨i, -, h⟩
      rw [has_none (by omega)] at h
      cases h
  · rw [if_neg (by omega), topOf, if_neg (by omega), Int.toNat_natCast, hy]
    simp only [Option.map_some, Option.getD_some, List.mem_singleton, List.mem_map]
    constructor
    · rintro (rfl | ⟨n, hn, he⟩)
      · exact ⟨m, hb, (has_iff (by omega)).2 (.inl rfl)⟩
      · obtain ⟨h0, h1⟩ := kidP_at he
        obtain ⟨k, hk⟩ := List.getElem?_of_mem hn
        have hk4 := (List.getElem?_eq_some_iff.1 hk).1
        rw [knB_len (arB_at ha hy)] at hk4
        exact ⟨n.toNat, h1, (has_iff (by omega)).2 (.inr ⟨k, hk4, by rw [kidAt_some (by rw [Int.toNat_natCast]; exact hy) hk]; omega⟩)⟩
    · rintro ⟨i, hi, hh⟩
      rcases (has_iff (by omega)).1 hh with e | ⟨k, hk, e⟩
      · left
        have : m = i := by omega
        subst this
        rw [hb] at hi
        exact (Option.some.inj hi).symm
      · right
        obtain ⟨n, hn, hc⟩ := inner_kid ha (r := (m : Int)) (by rw [Int.toNat_natCast]; exact hy) hl hk
        rw [kidAt_some (by rw [Int.toNat_natCast]; exact hy) hn] at e
        refine ⟨n, List.mem_of_getElem? hn, ?_⟩
        rw [kidP, if_neg (by omega), e, Int.toNat_natCast]
        exact hi
theorem knP_nodup (b : Nat) (x : Lk) : (knP b x).Nodup := by
  refine knFold_nodup ?_
  split <;> simp
theorem share_is {bs : List Nat} {L : List Kn} {r s : Int} {K0 K1 : List Nat} (hb : bs.Pairwise (· < ·)) (hl : bs.length = L.length) (hn : K0.Nodup) (h0 : ∀ d, d ∈ K0 ↔ ∃ i, bs[i]? = some d ∧ hasB L r i = true) (h1 : ∀ d, d ∈ K1 ↔ ∃ i, bs[i]? = some d ∧ hasB L s i = true) : K0.countP (fun d => decide (d ∈ K1)) = shareN L r s := by
  rw [List.countP_eq_length_filter, shareN, List.countP_eq_length_filter]
  have e : ((List.range L.length).filter (fun i => hasB L r i && hasB L s i)).length = (((List.range L.length).filter (fun i => hasB L r i && hasB L s i)).map (fun i => (bs[i]?).getD 0)).length := by rw [List.length_map]
  rw [e]
  refine List.Perm.length_eq ((List.perm_ext_iff_of_nodup (hn.filter _) ?_).2 ?_)
  · refine List.pairwise_map.2 ?_
    have hr : ((List.range L.length).filter (fun i => hasB L r i && hasB L s i)).Nodup := List.nodup_range.filter _
    refine List.Pairwise.imp_of_mem ?_ hr
    intro a c ha hc hne
    have ha2 := List.mem_range.1 (List.mem_filter.1 ha).1
    have hc2 := List.mem_range.1 (List.mem_filter.1 hc).1
    rw [List.getElem?_eq_getElem (by omega), List.getElem?_eq_getElem (by omega)]
    intro q
    simp only [Option.getD_some] at q
    exact hne (bs_inj hb (List.getElem?_eq_getElem (by omega)) (by rw [q]; exact List.getElem?_eq_getElem (by omega)))
  · intro d
    rw [List.mem_filter, List.mem_map, h0, decide_eq_true_eq, h1]
    constructor
    · rintro ⟨⟨i, hi, hr⟩, ⟨j, hj, hs⟩⟩
      have := bs_inj hb hi hj
      subst this
      have hil := (List.getElem?_eq_some_iff.1 hi).1
      exact ⟨i, List.mem_filter.2 ⟨List.mem_range.2 (by omega), by rw [hr, hs]; rfl⟩, by rw [hi]; rfl⟩
    · rintro ⟨i, hi, rfl⟩
      obtain ⟨h2, h3⟩ := List.mem_filter.1 hi
      have h2 := List.mem_range.1 h2
      rw [Bool.and_eq_true] at h3
      have hg : bs[i]? = some ((bs[i]?).getD 0) := by rw [List.getElem?_eq_getElem (by omega)]; rfl
      exact ⟨⟨i, hg, h3.1⟩, ⟨i, hg, h3.2⟩⟩
/-- The knots of a tree that the program tells. -/
theorem iknotsT (b : Nat) (bs : List Nat) (L : List Kn) (r : Int) (w : World) (ha : arB L = true) (h : TreeAt w b bs L r) :
    Calls Tryz.prog 92 #[ptr b] w fun e w' => ∃ v K, e = .returned v ∧ KwSt w w' v K ∧ K.Nodup ∧ K.length ≤ 5 ∧ ∀ d, d ∈ K ↔ ∃ i, bs[i]? = some d ∧ hasB L r i = true := by
  obtain ⟨x, hat, -, ht, hp⟩ := h.lk
  refine (iknots b x w hat (fun c hc => ?_)).mono ?_
  · rw [ht, List.mem_map] at hc
    obtain ⟨n, -, he⟩ := hc
    obtain ⟨-, h1⟩ := kidP_at he
    have hl := (List.getElem?_eq_some_iff.1 h1).1
    exact ⟨_, h.1.2 _ c _ h1 (List.getElem?_eq_getElem (by rw [← h.1.1]; exact hl))⟩
  · rintro e w' ⟨v, rfl, hk⟩
    refine ⟨v, knP b x, rfl, hk, knP_nodup b x, ?_, knP_mem ha h ht hp⟩
    have : ∀ (l : List (Option Nat)) (a : List Nat), (l.foldl knStep a).length ≤ a.length + l.length := by
      intro l
      induction l with
      | nil => intro a; simp
      | cons o l ih =>
        intro a
        have h1 := ih (knStep a o)
        have h2 := knStep_len a o
        rw [List.foldl_cons, List.length_cons]
        omega
    have h1 := this x.tos (if x.place = -1 then [] else [b])
    rw [hat.2.2] at h1
    have h2 : (if x.place = -1 then [] else [b] : List Nat).length ≤ 1 := by split <;> simp
    show (x.tos.foldl knStep _).length ≤ 5
    omega
def SameW (W w : World) : Prop := W = w
end Go.Proofs.YtcnaahajaaifjacGreat

/-
  Forests that are swept: marks and places.
-/
namespace Go.Proofs.YtcnaahajaaifjacGreat
open Go.RowKit
open Words

/-- What is kept of a list. -/
def swG {α : Type} (u : Nat → Bool) (l : List α) : Nat → List α
  | 0 => []
  | k + 1 => if u k = true then swG u l k ++ (l[k]?).toList else swG u l k
theorem swG_no {α : Type} {u : Nat → Bool} {l : List α} {k : Nat} (h : u k = false) : swG u l (k + 1) = swG u l k := by rw [swG, h, if_neg (by decide)]
theorem swG_yes {α : Type} {u : Nat → Bool} {l : List α} {k : Nat} {x : α} (h : u k = true) (hx : l[k]? = some x) : swG u l (k + 1) = swG u l k ++ [x] := by rw [swG, if_pos h, hx]; rfl
theorem swG_len {α : Type} {u : Nat → Bool} {l : List α} {k : Nat} (h : k ≤ l.length) : (swG u l k).length = swN u k := by
  induction k with
  | zero => rfl
  | succ k ih =>
    rw [swN_succ]
    cases hu : u k with
    | false => rw [swG_no hu, ih (by omega)]; rfl
    | true => rw [swG_yes hu (List.getElem?_eq_getElem (show k < l.length by omega)), List.length_append, ih (by omega)]; rfl
theorem swG_at {α : Type} {u : Nat → Bool} {l : List α} {i k : Nat} (hk : k ≤ l.length) (hi : i < k) (hu : u i = true) : (swG u l k)[swN u i]? = l[i]? := by
  induction k with
  | zero => omega
  | succ k ih =>
    have hkl : k < l.length := by omega
    by_cases e : i = k
    · subst e
      rw [swG_yes hu (List.getElem?_eq_getElem hkl), List.getElem?_append_right (by rw [swG_len (by omega)]; exact Nat.le_refl _), swG_len (by omega), Nat.sub_self, List.getElem?_eq_getElem hkl]
      rfl
    · have h := ih (by omega) (by omega)
      cases hu2 : u k with
      | false => rw [swG_no hu2]; exact h
      | true =>
        rw [swG_yes hu2 (List.getElem?_eq_getElem hkl), List.getElem?_append_left (by rw [swG_len (by omega)]; exact swN_lt u (by omega) hu)]
        exact h
/-- A linked knot with its mark and its place. -/
def lkU (bs : List Nat) (u : Nat → Bool) (p : Nat → Int) (i : Nat) (x : Kn) : Lk := { lkOf bs i x with place := p i, need := u i }
def lksU (bs : List Nat) (L : List Kn) (u : Nat → Bool) (p : Nat → Int) : List Lk := L.mapIdx (lkU bs u p)
theorem lksU_len (bs : List Nat) (L : List Kn) (u : Nat → Bool) (p : Nat → Int) : (lksU bs L u p).length = L.length := by simp [lksU]
theorem lksU_at (bs : List Nat) (L : List Kn) (u : Nat → Bool) (p : Nat → Int) (i : Nat) : (lksU bs L u p)[i]? = (L[i]?).map (lkU bs u p i) := by rw [lksU, List.getElem?_mapIdx]
theorem lksU_some {bs : List Nat} {L : List Kn} {u : Nat → Bool} {p : Nat → Int} {i : Nat} {x : Kn} (h : L[i]? = some x) : (lksU bs L u p)[i]? = some (lkU bs u p i x) := by rw [lksU_at, h]; rfl
theorem lksU_back {bs : List Nat} {L : List Kn} {u : Nat → Bool} {p : Nat → Int} {i : Nat} {y : Lk} (h : (lksU bs L u p)[i]? = some y) : ∃ x, L[i]? = some x ∧ y = lkU bs u p i x := by
  rw [lksU_at, Option.map_eq_some_iff] at h
  obtain ⟨x, h1, h2⟩ := h
  exact ⟨x, h1, h2.symm⟩
theorem lksU_congr {bs : List Nat} {L : List Kn} {u u' : Nat → Bool} {p p' : Nat → Int} (h : ∀ i, i < L.length → u i = u' i ∧ p i = p' i) : lksU bs L u p = lksU bs L u' p' := by
  apply List.ext_getElem?
  intro i
  rw [lksU_at, lksU_at]
  cases hx : L[i]? with
  | none => rfl
  | some x =>
    obtain ⟨h1, h2⟩ := h i (List.getElem?_eq_some_iff.1 hx).1
    rw [Option.map_some, Option.map_some, lkU, lkU, h1, h2]
theorem lksU_of (bs : List Nat) (L : List Kn) : lksOf bs L = lksU bs L (fun _ => false) (fun i => (i : Int)) := by
  apply List.ext_getElem?
  intro i
  rw [lksU_at, lksOf_at]
  cases hx : L[i]? with
  | none => rfl
  | some x =>
    rw [Option.map_some, Option.map_some]
    have h1 := lkOf_place bs i x
    have h2 := lkOf_need bs i x
    rw [lkU, ← h1, ← h2]
/-- What a sweep holds while it goes on. -/
def SwSt (lo : Nat) (w W : World) (fv : Value) (bs : List Nat) (L : List Kn) (tv : Value) (ts : List Nat) (rs : List Int) (u : Nat → Bool) (p : Nat → Int) : Prop :=
  W.ownsRow lo 113 1 fv bs.length (bcellsP bs) ∧ W.ownsRow lo 113 1 tv ts.length (bcellsP ts) ∧ FAt W bs (lksU bs L u p) ∧ (∀ i t : Nat, ts[i]? = some t → rs[i]? = some (-1) → LkAt W t lkNone ∧ t ∉ bs) ∧ Below lo w W
section
variable {lo : Nat} {w W : World} {fv tv : Value} {bs ts : List Nat} {L : List Kn} {rs : List Int} {u : Nat → Bool} {p : Nat → Int}
theorem SwSt.below {W' : World} (h : SwSt lo w W fv bs L tv ts rs u p) (hb : Below W.heap.size W W') (hlo : lo ≤ W.heap.size) : SwSt lo w W' fv bs L tv ts rs u p :=
  ⟨own_below h.1 hb, own_below h.2.1 hb, h.2.2.1.below hb, fun i t h1 h2 => ⟨(h.2.2.2.1 i t h1 h2).1.blw hb, (h.2.2.2.1 i t h1 h2).2⟩, h.2.2.2.2.trans (hb.mono hlo)⟩
theorem SwSt.congr {u' : Nat → Bool} {p' : Nat → Int} (h : SwSt lo w W fv bs L tv ts rs u p) (he : ∀ i, i < L.length → u i = u' i ∧ p i = p' i) : SwSt lo w W fv bs L tv ts rs u' p' := by
  refine ⟨h.1, h.2.1, ?_, h.2.2.2⟩
  rw [← lksU_congr he]
  exact h.2.2.1
theorem row_far {v : Value} {n b : Nat} {xs : List Value} {x : Lk} (h : W.ownsRow lo 113 1 v n xs) (hx : LkAt W b x) : v.ownBlock ≠ some b := by
  intro e
  obtain ⟨-, -, cs, q⟩ := own_kind h b e
  rw [hx.1] at q
  injection q with q
  injection q with _ q
  simp at q
theorem row_kept {v : Value} {n b j : Nat} {xs : List Value} {x : Lk} (h : W.ownsRow lo 113 1 v n xs) (hx : LkAt W b x) (c : Value) : (W.setCell ⟨b, j, none⟩ c).ownsRow lo 113 1 v n xs := h.kept (grown_cell W b j c) (.inr (row_far h hx))
/-- A cell of one of the knots is written. -/
theorem SwSt.set {i b j : Nat} {c : Value} {x : Kn} {u' : Nat → Bool} {p' : Nat → Int} (h : SwSt lo w W fv bs L tv ts rs u p) (hb : bs[i]? = some b) (hx : L[i]? = some x) (hlo : lo ≤ b) (hasc : bs.Pairwise (· < ·)) (hc : LkAt (W.setCell ⟨b, j, none⟩ c) b (lkU bs u' p' i x)) (he : ∀ k, k ≠ i → u k = u' k ∧ p k = p' k) : SwSt lo w (W.setCell ⟨b, j, none⟩ c) fv bs L tv ts rs u' p' := by
  have hat := h.2.2.1.2 i b _ hb (lksU_some hx)
  refine ⟨row_kept h.1 hat c, row_kept h.2.1 hat c, ⟨by rw [h.2.2.1.1, lksU_len, lksU_len], fun k d y h1 h2 => ?_⟩, fun k t h1 h2 => ⟨(h.2.2.2.1 k t h1 h2).1.other (fun e => (h.2.2.2.1 k t h1 h2).2 (by rw [e]; exact List.mem_of_getElem? hb)) _, (h.2.2.2.1 k t h1 h2).2⟩, h.2.2.2.2.setCell (p := ⟨b, j, none⟩) hlo _⟩
  obtain ⟨x', hx', rfl⟩ := lksU_back h2
  by_cases e : k = i
  · subst e
    rw [hb] at h1
    cases h1
    rw [hx] at hx'
    cases hx'
    exact hc
  · have hd : d ≠ b := fun q => e (bs_inj hasc h1 (by rw [q]; exact hb))
    obtain ⟨e1, e2⟩ := he k e
    have := (h.2.2.1.2 k d _ h1 (lksU_some hx')).other hd (k := j) c
    have e3 : lkU bs u' p' k x' = lkU bs u p k x' := by rw [lkU, lkU, e1, e2]
    rw [e3]
    exact this
theorem SwSt.mark {i b : Nat} {x : Kn} (h : SwSt lo w W fv bs L tv ts rs u p) (hb : bs[i]? = some b) (hx : L[i]? = some x) (hlo : lo ≤ b) (hasc : bs.Pairwise (· < ·)) : SwSt lo w (W.setCell ⟨b, 10, none⟩ (.bool true)) fv bs L tv ts rs (fun k => u k || decide (k = i)) p := by
  refine h.set hb hx hlo hasc ?_ (fun k hk => ⟨by rw [decide_eq_false hk, Bool.or_false], rfl⟩)
  have := (h.2.2.1.2 i b _ hb (lksU_some hx)).setNeed
  have e : lkU bs (fun k => u k || decide (k = i)) p i x = { lkU bs u p i x with need := true } := by simp [lkU]
  rw [e]
  exact this
theorem SwSt.place {i b : Nat} {x : Kn} (h : SwSt lo w W fv bs L tv ts rs u p) (hb : bs[i]? = some b) (hx : L[i]? = some x) (hlo : lo ≤ b) (hasc : bs.Pairwise (· < ·)) (q : Int) : SwSt lo w (W.setCell ⟨b, 0, none⟩ (.int .i64 q)) fv bs L tv ts rs u (fun k => if k = i then q else p k) := by
  refine h.set hb hx hlo hasc ?_ (fun k hk => ⟨rfl, by rw [if_neg hk]⟩)
  have := (h.2.2.1.2 i b _ hb (lksU_some hx)).setPlace q
  have e : lkU bs u (fun k => if k = i then q else p k) i x = { lkU bs u p i x with place := q } := by simp [lkU]
  rw [e]
  exact this
end
/-- Which of the knots are among these blocks? -/
def inK (bs K : List Nat) (i : Nat) : Bool := (bs[i]?).any (fun d => decide (d ∈ K))
theorem inK_snoc {bs K : List Nat} {i d : Nat} (hasc : bs.Pairwise (· < ·)) (hd : bs[i]? = some d) (j : Nat) : inK bs (K ++ [d]) j = (inK bs K j || decide (j = i)) := by
  unfold inK
  cases hj : bs[j]? with
  | none =>
    have : j ≠ i := fun e => by rw [e, hd] at hj; cases hj
    simp [this]
  | some c =>
    have : c = d ↔ j = i := by
      constructor
      · intro e; rw [e] at hj; exact bs_inj hasc hj hd
      · intro e; rw [e, hd] at hj; exact (Option.some.inj hj).symm
    simp [this]
theorem inK_has {bs K : List Nat} {L : List Kn} {r : Int} (hasc : bs.Pairwise (· < ·)) (hl : bs.length = L.length) (h : ∀ d, d ∈ K ↔ ∃ i, bs[i]? = some d ∧ hasB L r i = true) {j : Nat} (hj : j < L.length) : inK bs K j = hasB L r j := by
  have hb : bs[j]? = some bs[j] := List.getElem?_eq_getElem (by omega)
  rw [inK, hb, Option.any_some]
  cases hh : hasB L r j with
  | true => exact decide_eq_true ((h _).2 ⟨j, hb, hh⟩)
  | false =>
    refine decide_eq_false (fun q => ?_)
    obtain ⟨i, hi, hr⟩ := (h _).1 q
    rw [bs_inj hasc hi hb, hh] at hr
    cases hr
/-- Places of the first k. -/
def pK (u : Nat → Bool) (k i : Nat) : Int := if i < k ∧ u i = true then (swN u i : Int) else (i : Int)
theorem pK_zero (u : Nat → Bool) (i : Nat) : pK u 0 i = i := by rw [pK, if_neg (by omega)]
theorem pK_no {u : Nat → Bool} {k : Nat} (h : u k = false) (i : Nat) : pK u (k + 1) i = pK u k i := by
  unfold pK
  by_cases e : i = k
  · subst e; rw [h]; simp
  · have : (i < k + 1) ↔ (i < k) := by omega
    simp only [this]
theorem pK_yes {u : Nat → Bool} {k : Nat} (h : u k = true) (i : Nat) : pK u (k + 1) i = if i = k then (swN u k : Int) else pK u k i := by
  unfold pK
  by_cases e : i = k
  · subst e; rw [if_pos rfl, if_pos ⟨by omega, h⟩]
  · rw [if_neg e]
    have : (i < k + 1) ↔ (i < k) := by omega
    simp only [this]
theorem swU_take {L : List Kn} {rs : List Int} {k : Nat} {r : Int} (h : rs[k]? = some r) (i : Nat) : swU L (rs.take (k + 1)) i = (swU L (rs.take k) i || hasB L r i) := by
  rw [swU, swU, List.take_add_one, h, List.any_append]
  simp
theorem swU_zero {L : List Kn} {rs : List Int} (i : Nat) : swU L (rs.take 0) i = false := by simp [swU]
/-- The knots of a tree, in a forest with marks. -/
theorem iknotsU (t : Nat) (bs ts : List Nat) (L : List Kn) (rs : List Int) (lo : Nat) (fv tv : Value) (u : Nat → Bool) (k : Nat) (r : Int) (w W : World) (ha : arB L = true) (hr : rs[k]? = some r) (hR : rootB L r = true) (ht : ts[k]? = some t) (hb : ∀ m : Nat, r = (m : Int) → bs[m]? = some t) (h : SwSt lo w W fv bs L tv ts rs u (fun i => (i : Int))) :
    Calls Tryz.prog 92 #[ptr t] W fun e w' => ∃ v K, e = .returned v ∧ KwSt W w' v K ∧ K.length ≤ 5 ∧ (∀ d, d ∈ K ↔ ∃ i, bs[i]? = some d ∧ hasB L r i = true) := by
  have hbl : bs.length = L.length := by rw [h.2.2.1.1, lksU_len]
  obtain ⟨x, hat, htos, hp⟩ : ∃ x, LkAt W t x ∧ x.tos = (topOf L r).map (kidP bs) ∧ x.place = r := by
    rcases rootB_yes hR with rfl | ⟨m, y, rfl, hy, hl⟩
    · refine ⟨lkNone, (h.2.2.2.1 k t ht hr).1, ?_, rfl⟩
      rw [topOf, if_pos (by omega)]
      rfl
    · refine ⟨_, h.2.2.1.2 m t _ (hb m rfl) (lksU_some hy), ?_, rfl⟩
      rw [topOf, if_neg (by omega), Int.toNat_natCast, hy]
      show (lkOf bs m y).tos = _
      unfold lkOf
      rw [if_neg (by rw [hl]; decide)]
      rfl
  refine (iknots t x W hat (fun c hc => ?_)).mono ?_
  · rw [htos, List.mem_map] at hc
    obtain ⟨n, -, he⟩ := hc
    obtain ⟨-, h1⟩ := kidP_at he
    have hl := (List.getElem?_eq_some_iff.1 h1).1
    exact ⟨_, h.2.2.1.2 _ c _ h1 (List.getElem?_eq_getElem (by rw [lksU_len]; omega))⟩
  · rintro e w' ⟨v, rfl, hk⟩
    refine ⟨v, knP t x, rfl, hk, ?_, ?_⟩
    · have hfl : ∀ (l : List (Option Nat)) (a : List Nat), (l.foldl knStep a).length ≤ a.length + l.length := by
        intro l
        induction l with
        | nil => intro a; simp
        | cons o l ih =>
          intro a
          have h1 := ih (knStep a o)
          have h2 := knStep_len a o
          rw [List.foldl_cons, List.length_cons]
          omega
      have h1 := hfl x.tos (if x.place = -1 then [] else [t])
      rw [hat.2.2] at h1
      have h2 : (if x.place = -1 then [] else [t] : List Nat).length ≤ 1 := by split <;> simp
      show (x.tos.foldl knStep _).length ≤ 5
      omega
    · intro d
      rw [knP, knFold_mem, htos, hp]
      rcases rootB_yes hR with rfl | ⟨m, y, rfl, hy, hl⟩
      · rw [if_pos rfl, topOf, if_pos (by omega)]
        constructor
        · rintro (h | h)
          · cases h
          · simp [kidP] at h
        · rintro ⟨i, -, h⟩
          rw [has_none (by omega)] at h
          cases h
      · have hbm := hb m rfl
        rw [if_neg (by omega), topOf, if_neg (by omega), Int.toNat_natCast, hy]
        simp only [Option.map_some, Option.getD_some, List.mem_singleton, List.mem_map]
        constructor
        · rintro (rfl | ⟨n, hn, he⟩)
          · exact ⟨m, hbm, (has_iff (by omega)).2 (.inl rfl)⟩
          · obtain ⟨h0, h1⟩ := kidP_at he
            obtain ⟨k, hk⟩ := List.getElem?_of_mem hn
            have hk4 := (List.getElem?_eq_some_iff.1 hk).1
            rw [knB_len (arB_at ha hy)] at hk4
            exact ⟨n.toNat, h1, (has_iff (by omega)).2 (.inr ⟨k, hk4, by rw [kidAt_some (by rw [Int.toNat_natCast]; exact hy) hk]; omega⟩)⟩
        · rintro ⟨i, hi, hh⟩
          rcases (has_iff (by omega)).1 hh with e | ⟨k, hk, e⟩
          · left
            have : m = i := by omega
            subst this
            rw [hbm] at hi
            exact (Option.some.inj hi).symm
          · right
            obtain ⟨n, hn, hc⟩ := inner_kid ha (r := (m : Int)) (by rw [Int.toNat_natCast]; exact hy) hl hk
            rw [kidAt_some (by rw [Int.toNat_natCast]; exact hy) hn] at e
            refine ⟨n, List.mem_of_getElem? hn, ?_⟩
            rw [kidP, if_neg (by omega), e, Int.toNat_natCast]
            exact hi
end Go.Proofs.YtcnaahajaaifjacGreat
