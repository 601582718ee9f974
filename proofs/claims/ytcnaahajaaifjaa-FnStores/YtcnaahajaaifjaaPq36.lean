/-
  ITrees; IShare
-/
import Derived.Test.YtcnaahajaaifjaaIPut
import Derived.Test.YtcnaahajaaifjaaIKnots
import Derived.Test.YtcnaahajaaifjaaPq5
/-
  impl's forests: the trees of some roots.
-/
namespace Go.Proofs.Ytcnaahajaaifjaa
open Go.RowKit
open Words

/-- Trees, each in its block. -/
def TrsAt (W : World) (bs : List Nat) (L : List Kn) (ts : List Nat) (rs : List Int) : Prop := ts.length = rs.length ∧ ∀ (i t : Nat) (r : Int), ts[i]? = some t → rs[i]? = some r → TreeAt W t bs L r
theorem TrsAt.below {W W' : World} {bs ts : List Nat} {L : List Kn} {rs : List Int} (h : TrsAt W bs L ts rs) (hb : Below W.heap.size W W') : TrsAt W' bs L ts rs := ⟨h.1, fun i t r h1 h2 => (h.2 i t r h1 h2).below hb⟩
theorem TreeAt.grown {W y : World} {b : Nat} {bs : List Nat} {L : List Kn} {r : Int} {row : Option Nat} (h : TreeAt W b bs L r) (hg : W.grownBy y row) (hr : ∀ g, row = some g → ∃ cs, W.heap[g]? = some (.cells cs 111 (0, 0))) : TreeAt y b bs L r := by
  refine ⟨h.1.grown hg hr, ?_⟩
  rcases h.2 with ⟨e, hx⟩ | q
  · refine .inl ⟨e, (hg.block b hx.lt (fun e => ?_)).trans hx.1, hx.2⟩
    obtain ⟨cs, q⟩ := hr b e.symm
    rw [hx.1] at q
    injection q with q
    injection q with _ q
    simp at q
  · exact .inr q
/-- The trees under way. -/
def TSt (w W : World) (m : Nat) (bs : List Nat) (L : List Kn) (rs : List Int) (ts : List Nat) : Prop :=
  W.ownsRow w.heap.size 111 1 (.slice (some ⟨w.heap.size, 0, none⟩) m m) m (bcellsP ts ++ List.replicate (m - ts.length) (.pointer none)) ∧ (∀ (i t : Nat) (r : Int), ts[i]? = some t → rs[i]? = some r → TreeAt W t bs L r ∧ (r = -1 → w.heap.size ≤ t)) ∧ rs.take ts.length = (rs.take ts.length).filter (rootB L) ∧ Below w.heap.size w W
/-- What treesAt answers. -/
def TsOut (w : World) (bs : List Nat) (L : List Kn) (rs : List Int) (e : Ending) (w' : World) : Prop :=
  Below w.heap.size w w' ∧ ((rs.all (rootB L) = true ∧ ∃ ts c, e = .returned (.tuple #[.slice (some ⟨w.heap.size, 0, none⟩) rs.length c, .bool true]) ∧ w'.ownsRow w.heap.size 111 1 (.slice (some ⟨w.heap.size, 0, none⟩) rs.length c) ts.length (bcellsP ts) ∧ TrsAt w' bs L ts rs ∧ ∀ (i t : Nat), ts[i]? = some t → rs[i]? = some (-1) → w.heap.size ≤ t) ∨ (rs.all (rootB L) = false ∧ e = .returned (.tuple #[.slice none 0 0, .bool false])))

set_option maxHeartbeats 1000000 in
set_option maxRecDepth 100000 in
theorem itreesAt (fa : Option Addr) (n c : Nat) (bs : List Nat) (L : List Kn) (ra : Option Addr) (m rc : Nat) (rs : List Int) (w : World) (hm : m ≤ 1048576) (hr : PRow w fa n bs) (hf : FAt w bs (lksOf bs L)) (hk : IRow w ra m rs) :
    Calls Try.prog 97 #[.slice fa n c, .slice ra m rc] w (TsOut w bs L rs) := by
  obtain ⟨i0, hi, hz0, hz1, hz2⟩ := info_parts infoPt
  have HR := hide hr
  have HF := hide hf
  have HK := hide hk
  have HM := hide hk.1
  clear hr hf hk
  go_enter Try.func97, Try.ntmps97
  go_wp2_with (at_make; refine wpList_make_full _ rfl _ _ 114 rfl w.heap.size 111 i0 (.pointer none) 1 Try.underlying114 hi hz0 hz1 .i64 .i64 _ _ m rfl rfl rfl rfl (by rw [hz2]; omega) (by unfold maxLen; omega) (Nat.le_refl _) ?_)
  intro w1 hown hgrow
  rw [toList_madeCells_one] at hown
  have BG : Below w.heap.size w w1 := (Below.refl _ _).grown hgrow (Nat.le_refl _) (fun k hk => by cases hk)
  have S0 : Hid (TSt w w1 m bs L rs []) := ⟨hown, (fun i t r h => by simp at h), by simp, BG⟩
  clear hown hgrow BG hi hz0 hz1 hz2
  go_wp2
  go_loopw [14] (fun iv W => ∃ (k : Nat) (ts : List Nat), k ≤ m ∧ iv = .int .i64 k ∧ Hid (ts.length = k) ∧ Hid (TSt w W m bs L rs ts)) (fun iv _ => m - (intOf iv).toNat)
  case atStart => exact ⟨0, [], Nat.zero_le _, rfl, rfl, S0⟩
  case round =>
    obtain ⟨k, ts, hk, rfl, HTL, HS⟩ := hrel
    clear S0
    by_cases hlt : (k : Int) < m
    · obtain ⟨r, hr⟩ : ∃ r, rs[k]? = some r := ⟨_, List.getElem?_eq_getElem (by have := HM.out; omega)⟩
      have HW : Hid (Below w.heap.size w wr) := HS.out.2.2.2
      obtain ⟨rb, ro, e, -, hrc⟩ := (HK.out.below HW.out).at hr
      subst e
      have k0 : (0 : Int) ≤ k := by omega
      have HRR := hide hr
      clear hr
      go_wp2_with fail
      refine (ftree fa n c bs L r wr (HR.out.below HW.out) (HF.out.below HW.out)).mono ?_
      rintro e w2 ⟨b2, h2⟩
      have B2 := hide b2
      have OW2 := hide (own_below HS.out.1 b2)
      have gl := (own_kind OW2.out w.heap.size rfl).2.1
      have oc : w2.cell? ⟨w.heap.size, k, none⟩ = some (.pointer none) := by
        rw [← addr_at]
        refine OW2.out.cells (g := w.heap.size) rfl k _ ?_
        rw [List.getElem?_append_right (by rw [bcellsP_len, HTL.out]; exact Nat.le_refl _), bcellsP_len, HTL.out, Nat.sub_self, List.getElem?_replicate, if_pos (by omega)]
      have of : w2.frozen? ⟨w.heap.size, k, none⟩ = false := by
        obtain ⟨-, -, cs, q⟩ := own_kind OW2.out w.heap.size rfl
        exact frozen_of_row _ _ k _ _ q
      clear b2
      rcases h2 with ⟨hR, b, rfl, hT, hlo⟩ | ⟨hR, rfl⟩
      · have NX : Hid (TSt w (w2.setCell ⟨w.heap.size, k, none⟩ (.pointer (some ⟨b, 0, none⟩))) m bs L rs (ts ++ [b])) := by
          obtain ⟨-, -, cs, q⟩ := own_kind OW2.out w.heap.size rfl
          have hgr := grown_cell w2 w.heap.size k (.pointer (some ⟨b, 0, none⟩))
          have hrk : ∀ g, some w.heap.size = some g → ∃ cs, w2.heap[g]? = some (.cells cs 111 (0, 0)) := fun g e => by cases e; exact ⟨cs, q⟩
          have hlt2 : (ts ++ [b]).length = k + 1 := by rw [List.length_append, HTL.out]; rfl
          refine ⟨?_, ?_, ?_, ((HW.out.trans (B2.out.mono HW.out.size)).setCell (p := ⟨w.heap.size, k, none⟩) (Nat.le_refl _) _)⟩
          · have := fown_set OW2.out rfl k (.pointer (some ⟨b, 0, none⟩))
            rw [HTL.out, zeros_set _ _ _ _ _ (by rw [bcellsP_len, HTL.out]) (by omega)] at this
            rw [hlt2, ← bcellsP_snoc]
            exact this
          · intro i t r' h1 h3
            by_cases hi : i < ts.length
            · rw [List.getElem?_append_left hi] at h1
              exact ⟨((HS.out.2.1 i t r' h1 h3).1.below B2.out).grown hgr hrk, (HS.out.2.1 i t r' h1 h3).2⟩
            · have hil := (List.getElem?_eq_some_iff.1 h1).1
              rw [hlt2] at hil
              have e : i = ts.length := by have := HTL.out; omega
              subst e
              simp at h1
              subst h1
              rw [HTL.out, HRR.out] at h3
              cases h3
              exact ⟨hT.grown hgr hrk, fun e => by have := hlo e; have := HW.out.size; omega⟩
          · rw [hlt2, List.take_add_one, HRR.out, List.filter_append]
            have := HS.out.2.2.1
            rw [HTL.out] at this
            rw [← this]
            simp [hR]
        have NL : Hid ((ts ++ [b]).length = k + 1) := by show _ = _; rw [List.length_append, HTL.out]; rfl
        have oc3 : (w2.setCell ⟨w.heap.size, k, none⟩ (.pointer (some ⟨b, 0, none⟩))).cell? ⟨w.heap.size, k, none⟩ = some (.pointer (some ⟨b, 0, none⟩)) := World.cell?_setCell_same _ _ _ oc
        generalize ts ++ [b] = ts2 at NX NL
        unfold ptr
        clear hT hR HS HTL OW2 B2 HW
        go_wp2
        go_roundw
        case rel => exact ⟨k + 1, ts2, by omega, by go_num, NL, NX⟩
        case measure => simp [intOf]; omega
      · have oc3 : (w2.setCell ⟨w.heap.size, k, none⟩ (.pointer none)).cell? ⟨w.heap.size, k, none⟩ = some (.pointer none) := World.cell?_setCell_same _ _ _ oc
        have FIN : Hid (TsOut w bs L rs (.returned (.tuple #[.slice none 0 0, .bool false])) (w2.setCell ⟨w.heap.size, k, none⟩ (.pointer none))) := by
          refine ⟨(HW.out.trans (B2.out.mono HW.out.size)).setCell (p := ⟨w.heap.size, k, none⟩) (Nat.le_refl _) _, .inr ⟨?_, rfl⟩⟩
          rw [List.all_eq_false]
          exact ⟨r, List.mem_of_getElem? HRR.out, by rw [hR]; decide⟩
        clear hR HS HTL OW2 B2 HW
        go_wp2
        go_ret2
        exact FIN.out
    · have ek : k = m := by omega
      subst ek
      have FIN : Hid (TsOut w bs L rs (.returned (.tuple #[.slice (some ⟨w.heap.size, 0, none⟩) k k, .bool true])) wr) := by
        obtain ⟨h1, h2, h3, h4⟩ := HS.out
        have hrl := HM.out
        have htl := HTL.out
        refine ⟨h4, .inl ⟨?_, ts, k, by rw [hrl], ?_, ⟨by omega, fun i t r q1 q2 => (h2 i t r q1 q2).1⟩, fun i t q1 q2 => (h2 i t _ q1 q2).2 rfl⟩⟩
        · rw [htl, List.take_of_length_le (by omega)] at h3
          rw [List.all_eq_true]
          intro r hr
          rw [h3] at hr
          exact (List.mem_filter.1 hr).2
        · rw [htl, Nat.sub_self, List.replicate_zero, List.append_nil] at h1
          rw [hrl, htl]
          exact h1
      clear HS
      go_wp2
      go_ret2
      exact FIN.out
end Go.Proofs.Ytcnaahajaaifjaa

/-
  impl.SharedBy.
-/
namespace Go.Proofs.Ytcnaahajaaifjaa
open Go.RowKit
open Words

theorem bs_inj {bs : List Nat} (h : bs.Pairwise (· < ·)) {i j b : Nat} (hi : bs[i]? = some b) (hj : bs[j]? = some b) : i = j := by
  obtain ⟨i1, i2⟩ := List.getElem?_eq_some_iff.1 hi
  obtain ⟨j1, j2⟩ := List.getElem?_eq_some_iff.1 hj
  have hp := List.pairwise_iff_getElem.1 h
  by_cases e : i = j
  · exact e
  · by_cases l : i < j
    · have := hp i j i1 j1 l; omega
    · have := hp j i j1 i1 (by omega); omega
/-- The knots of a tree are those of the arena that it has. -/
theorem knP_mem {W : World} {b : Nat} {bs : List Nat} {L : List Kn} {r : Int} {x : Lk} (ha : arB L = true) (h : TreeAt W b bs L r) (ht : x.tos = (topOf L r).map (kidP bs)) (hp : x.place = r) (d : Nat) : d ∈ knP b x ↔ ∃ i, bs[i]? = some d ∧ hasB L r i = true := by
  rw [knP, knFold_mem, ht, hp]
  rcases h.2 with ⟨rfl, -⟩ | ⟨m, y, rfl, hb, hy, hl⟩
  · rw [if_pos rfl, topOf, if_pos (by omega)]
    constructor
    · rintro (h | h)
      · cases h
      · simp [kidP] at h
    · rintro ⟨i, -, h⟩
      rw [has_none (by omega)] at h
      cases h
  · rw [if_neg (by omega), topOf, if_neg (by omega), Int.toNat_natCast, hy]
    simp only [Option.map_some, Option.getD_some, List.mem_singleton, List.mem_map]
    constructor
    · rintro (rfl | ⟨n, hn, he⟩)
      · exact ⟨m, hb, (has_iff (by omega)).2 (.inl rfl)⟩
      · obtain ⟨h0, h1⟩ := kidP_at he
        obtain ⟨k, hk⟩ := List.getElem?_of_mem hn
        have hk4 := (List.getElem?_eq_some_iff.1 hk).1
        rw [knB_len (arB_at ha hy)] at hk4
        exact ⟨n.toNat, h1, (has_iff (by omega)).2 (.inr ⟨k, hk4, by rw [kidAt_some (by rw [Int.toNat_natCast]; exact hy) hk]; omega⟩)⟩
    · rintro ⟨i, hi, hh⟩
      rcases (has_iff (by omega)).1 hh with e | ⟨k, hk, e⟩
      · left
        have : m = i := by omega
        subst this
        rw [hb] at hi
        exact (Option.some.inj hi).symm
      · right
        obtain ⟨n, hn, hc⟩ := inner_kid ha (r := (m : Int)) (by rw [Int.toNat_natCast]; exact hy) hl hk
        rw [kidAt_some (by rw [Int.toNat_natCast]; exact hy) hn] at e
        refine ⟨n, List.mem_of_getElem? hn, ?_⟩
        rw [kidP, if_neg (by omega), e, Int.toNat_natCast]
        exact hi
theorem knP_nodup (b : Nat) (x : Lk) : (knP b x).Nodup := by
  refine knFold_nodup ?_
  split <;> simp
theorem share_is {bs : List Nat} {L : List Kn} {r s : Int} {K0 K1 : List Nat} (hb : bs.Pairwise (· < ·)) (hl : bs.length = L.length) (hn : K0.Nodup) (h0 : ∀ d, d ∈ K0 ↔ ∃ i, bs[i]? = some d ∧ hasB L r i = true) (h1 : ∀ d, d ∈ K1 ↔ ∃ i, bs[i]? = some d ∧ hasB L s i = true) : K0.countP (fun d => decide (d ∈ K1)) = shareN L r s := by
  rw [List.countP_eq_length_filter, shareN, List.countP_eq_length_filter]
  have e : ((List.range L.length).filter (fun i => hasB L r i && hasB L s i)).length = (((List.range L.length).filter (fun i => hasB L r i && hasB L s i)).map (fun i => (bs[i]?).getD 0)).length := by rw [List.length_map]
  rw [e]
  refine List.Perm.length_eq ((List.perm_ext_iff_of_nodup (hn.filter _) ?_).2 ?_)
  · refine List.pairwise_map.2 ?_
    have hr : ((List.range L.length).filter (fun i => hasB L r i && hasB L s i)).Nodup := List.nodup_range.filter _
    refine List.Pairwise.imp_of_mem ?_ hr
    intro a c ha hc hne
    have ha2 := List.mem_range.1 (List.mem_filter.1 ha).1
    have hc2 := List.mem_range.1 (List.mem_filter.1 hc).1
    rw [List.getElem?_eq_getElem (by omega), List.getElem?_eq_getElem (by omega)]
    intro q
    simp only [Option.getD_some] at q
    exact hne (bs_inj hb (List.getElem?_eq_getElem (by omega)) (by rw [q]; exact List.getElem?_eq_getElem (by omega)))
  · intro d
    rw [List.mem_filter, List.mem_map, h0, decide_eq_true_eq, h1]
    constructor
    · rintro ⟨⟨i, hi, hr⟩, ⟨j, hj, hs⟩⟩
      have := bs_inj hb hi hj
      subst this
      have hil := (List.getElem?_eq_some_iff.1 hi).1
      exact ⟨i, List.mem_filter.2 ⟨List.mem_range.2 (by omega), by rw [hr, hs]; rfl⟩, by rw [hi]; rfl⟩
    · rintro ⟨i, hi, rfl⟩
      obtain ⟨h2, h3⟩ := List.mem_filter.1 hi
      have h2 := List.mem_range.1 h2
      rw [Bool.and_eq_true] at h3
      have hg : bs[i]? = some ((bs[i]?).getD 0) := by rw [List.getElem?_eq_getElem (by omega)]; rfl
      exact ⟨⟨i, hg, h3.1⟩, ⟨i, hg, h3.2⟩⟩
/-- The knots of a tree that the program tells. -/
theorem iknotsT (b : Nat) (bs : List Nat) (L : List Kn) (r : Int) (w : World) (ha : arB L = true) (h : TreeAt w b bs L r) :
    Calls Try.prog 122 #[ptr b] w fun e w' => ∃ v K, e = .returned v ∧ KwSt w w' v K ∧ K.Nodup ∧ K.length ≤ 5 ∧ ∀ d, d ∈ K ↔ ∃ i, bs[i]? = some d ∧ hasB L r i = true := by
  obtain ⟨x, hat, -, ht, hp⟩ := h.lk
  refine (iknots b x w hat (fun c hc => ?_)).mono ?_
  · rw [ht, List.mem_map] at hc
    obtain ⟨n, -, he⟩ := hc
    obtain ⟨-, h1⟩ := kidP_at he
    have hl := (List.getElem?_eq_some_iff.1 h1).1
    exact ⟨_, h.1.2 _ c _ h1 (List.getElem?_eq_getElem (by rw [← h.1.1]; exact hl))⟩
  · rintro e w' ⟨v, rfl, hk⟩
    refine ⟨v, knP b x, rfl, hk, knP_nodup b x, ?_, knP_mem ha h ht hp⟩
    have : ∀ (l : List (Option Nat)) (a : List Nat), (l.foldl knStep a).length ≤ a.length + l.length := by
      intro l
      induction l with
      | nil => intro a; simp
      | cons o l ih =>
        intro a
        have h1 := ih (knStep a o)
        have h2 := knStep_len a o
        rw [List.foldl_cons, List.length_cons]
        omega
    have h1 := this x.tos (if x.place = -1 then [] else [b])
    rw [hat.2.2] at h1
    have h2 : (if x.place = -1 then [] else [b] : List Nat).length ≤ 1 := by split <;> simp
    show (x.tos.foldl knStep _).length ≤ 5
    omega
def SameW (W w : World) : Prop := W = w
end Go.Proofs.Ytcnaahajaaifjaa
