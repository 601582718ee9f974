/-
  impl.SharedBy.
-/
import Derived.Test.YtnebelflnpbbiarITrees
import Derived.Test.YtnebelflnpbbiarSwMath
namespace Go.Proofs.Ytnebelflnpbbiar
open Go.RowKit
open Words

theorem bs_inj {bs : List Nat} (h : bs.Pairwise (· < ·)) {i j b : Nat} (hi : bs[i]? = some b) (hj : bs[j]? = some b) : i = j := by
  obtain ⟨i1, i2⟩ := List.getElem?_eq_some_iff.1 hi
  obtain ⟨j1, j2⟩ := List.getElem?_eq_some_iff.1 hj
  have hp := List.pairwise_iff_getElem.1 h
  by_cases e : i = j
  · exact e
  · by_cases l : i < j
    · have := hp i j i1 j1 l; omega
    · have := hp j i j1 i1 (by omega); omega
/-- The knots of a tree are those of the arena that it has. -/
theorem knP_mem {W : World} {b : Nat} {bs : List Nat} {L : List Kn} {r : Int} {x : Lk} (ha : arB L = true) (h : TreeAt W b bs L r) (ht : x.tos = (topOf L r).map (kidP bs)) (hp : x.place = r) (d : Nat) : d ∈ knP b x ↔ ∃ i, bs[i]? = some d ∧ hasB L r i = true := by
  rw [knP, knFold_mem, ht, hp]
  rcases h.2 with ⟨rfl, -⟩ | ⟨m, y, rfl, hb, hy, hl⟩
  · rw [if_pos rfl, topOf, if_pos (by omega)]
    constructor
    · rintro (h | h)
      · cases h
      · simp [kidP] at h
    · rintro ⟨i, -, h⟩
      rw [has_none (by omega)] at h
      cases h
  · rw [if_neg (by omega), topOf, if_neg (by omega), Int.toNat_natCast, hy]
    simp only [Option.map_some, Option.getD_some, List.mem_singleton, List.mem_map]
    constructor
    · rintro (rfl | ⟨n, hn, he⟩)
      · exact ⟨m, hb, (has_iff (by omega)).2 (.inl rfl)⟩
      · obtain ⟨h0, h1⟩ := kidP_at he
        obtain ⟨k, hk⟩ := List.getElem?_of_mem hn
        have hk4 := (List.getElem?_eq_some_iff.1 hk).1
        rw [knB_len (arB_at ha hy)] at hk4
        exact ⟨n.toNat, h1, (has_iff (by omega)).2 (.inr ⟨k, hk4, by rw [kidAt_some (by rw [Int.toNat_natCast]; exact hy) hk]; omega⟩)⟩
    · rintro ⟨i, hi, hh⟩
      rcases (has_iff (by omega)).1 hh with e | ⟨k, hk, e⟩
      · left
        have : m = i := by omega
        subst this
        rw [hb] at hi
        exact (Option.some.inj hi).symm
      · right
        obtain ⟨n, hn, hc⟩ := inner_kid ha (r := (m : Int)) (by rw [Int.toNat_natCast]; exact hy) hl hk
        rw [kidAt_some (by rw [Int.toNat_natCast]; exact hy) hn] at e
        refine ⟨n, List.mem_of_getElem? hn, ?_⟩
        rw [kidP, if_neg (by omega), e, Int.toNat_natCast]
        exact hi
theorem knP_nodup (b : Nat) (x : Lk) : (knP b x).Nodup := by
  refine knFold_nodup ?_
  split <;> simp
theorem share_is {bs : List Nat} {L : List Kn} {r s : Int} {K0 K1 : List Nat} (hb : bs.Pairwise (· < ·)) (hl : bs.length = L.length) (hn : K0.Nodup) (h0 : ∀ d, d ∈ K0 ↔ ∃ i, bs[i]? = some d ∧ hasB L r i = true) (h1 : ∀ d, d ∈ K1 ↔ ∃ i, bs[i]? = some d ∧ hasB L s i = true) : K0.countP (fun d => decide (d ∈ K1)) = shareN L r s := by
  rw [List.countP_eq_length_filter, shareN, List.countP_eq_length_filter]
  have e : ((List.range L.length).filter (fun i => hasB L r i && hasB L s i)).length = (((List.range L.length).filter (fun i => hasB L r i && hasB L s i)).map (fun i => (bs[i]?).getD 0)).length := by rw [List.length_map]
  rw [e]
  refine List.Perm.length_eq ((List.perm_ext_iff_of_nodup (hn.filter _) ?_).2 ?_)
  · refine List.pairwise_map.2 ?_
    have hr : ((List.range L.length).filter (fun i => hasB L r i && hasB L s i)).Nodup := List.nodup_range.filter _
    refine List.Pairwise.imp_of_mem ?_ hr
    intro a c ha hc hne
    have ha2 := List.mem_range.1 (List.mem_filter.1 ha).1
    have hc2 := List.mem_range.1 (List.mem_filter.1 hc).1
    rw [List.getElem?_eq_getElem (by omega), List.getElem?_eq_getElem (by omega)]
    intro q
    simp only [Option.getD_some] at q
    exact hne (bs_inj hb (List.getElem?_eq_getElem (by omega)) (by rw [q]; exact List.getElem?_eq_getElem (by omega)))
  · intro d
    rw [List.mem_filter, List.mem_map, h0, decide_eq_true_eq, h1]
    constructor
    · rintro ⟨⟨i, hi, hr⟩, ⟨j, hj, hs⟩⟩
      have := bs_inj hb hi hj
      subst this
      have hil := (List.getElem?_eq_some_iff.1 hi).1
      exact ⟨i, List.mem_filter.2 ⟨List.mem_range.2 (by omega), by rw [hr, hs]; rfl⟩, by rw [hi]; rfl⟩
    · rintro ⟨i, hi, rfl⟩
      obtain ⟨h2, h3⟩ := List.mem_filter.1 hi
      have h2 := List.mem_range.1 h2
      rw [Bool.and_eq_true] at h3
      have hg : bs[i]? = some ((bs[i]?).getD 0) := by rw [List.getElem?_eq_getElem (by omega)]; rfl
      exact ⟨⟨i, hg, h3.1⟩, ⟨i, hg, h3.2⟩⟩
/-- The knots of a tree that the program tells. -/
theorem iknotsT (b : Nat) (bs : List Nat) (L : List Kn) (r : Int) (w : World) (ha : arB L = true) (h : TreeAt w b bs L r) :
    Calls Try.prog 49 #[ptr b] w fun e w' => ∃ v K, e = .returned v ∧ KwSt w w' v K ∧ K.Nodup ∧ K.length ≤ 5 ∧ ∀ d, d ∈ K ↔ ∃ i, bs[i]? = some d ∧ hasB L r i = true := by
  obtain ⟨x, hat, -, ht, hp⟩ := h.lk
  refine (iknots b x w hat (fun c hc => ?_)).mono ?_
  · rw [ht, List.mem_map] at hc
    obtain ⟨n, -, he⟩ := hc
    obtain ⟨-, h1⟩ := kidP_at he
    have hl := (List.getElem?_eq_some_iff.1 h1).1
    exact ⟨_, h.1.2 _ c _ h1 (List.getElem?_eq_getElem (by rw [← h.1.1]; exact hl))⟩
  · rintro e w' ⟨v, rfl, hk⟩
    refine ⟨v, knP b x, rfl, hk, knP_nodup b x, ?_, knP_mem ha h ht hp⟩
    have : ∀ (l : List (Option Nat)) (a : List Nat), (l.foldl knStep a).length ≤ a.length + l.length := by
      intro l
      induction l with
      | nil => intro a; simp
      | cons o l ih =>
        intro a
        have h1 := ih (knStep a o)
        have h2 := knStep_len a o
        rw [List.foldl_cons, List.length_cons]
        omega
    have h1 := this x.tos (if x.place = -1 then [] else [b])
    rw [hat.2.2] at h1
    have h2 : (if x.place = -1 then [] else [b] : List Nat).length ≤ 1 := by split <;> simp
    show (x.tos.foldl knStep _).length ≤ 5
    omega

def SameW (W w : World) : Prop := W = w
set_option maxHeartbeats 2000000 in
set_option maxRecDepth 100000 in
theorem ishare : ShareC 26 := by
  intro ad len cap rs r s w hl h
  have bx := box_at w (.slice ad len cap)
  have B0 : Hid (Below w.heap.size w (w.alloc (.cells #[.slice ad len cap] 29))) := (Below.refl _ _).alloc (Nat.le_refl _) _
  have H := hide (h.below B0.out)
  have HLn := hide (show (rs.map ktell).length = len by rw [List.length_map]; exact h.1)
  clear h
  obtain ⟨L, hL⟩ : ∃ L, rs.map ktell = L := ⟨_, rfl⟩
  have HL := hide hL
  rw [hL] at HLn ⊢
  clear hL
  go_enter Try.func26, Try.ntmps26
  go_wp2_with fail
  refine (ilinked ad len cap rs _ hl H.out).mono ?_
  rw [HL.out]
  rintro e w1 ⟨b1, h1⟩
  have B1 : Hid (Below w.heap.size w w1) := B0.out.trans (b1.mono B0.out.size)
  have BI : Hid (Below w1.heap.size w1 (w1.alloc (.cells #[.int .i64 r, .int .i64 s] 3))) := (Below.refl _ _).alloc (Nat.le_refl _) _
  have RI : Hid (IRow (w1.alloc (.cells #[.int .i64 r, .int .i64 s] 3)) (some ⟨w1.heap.size, 0, none⟩) 2 [r, s]) := by
    refine ⟨rfl, by simp [maxLen], fun _ => ⟨w1.heap.size, 0, rfl, by simp, fun i t ht => ?_⟩⟩
    have := cell_of_row _ _ (0 + i) _ _ _ (heap_alloc_new w1 (.cells #[.int .i64 r, .int .i64 s] 3))
    refine Eq.trans this ?_
    rw [Nat.zero_add]
    match i, ht with
    | 0, ht | 1, ht => simp at ht; subst ht; rfl
  clear b1 bx
  rcases h1 with ⟨hA, v, bs, rfl, hF⟩ | ⟨hA, rfl⟩
  · have HA := hide hA
    obtain ⟨fa, fc, rfl, hpr⟩ := PRow.of (bs := bs) (by rw [hF.2.1]; exact hF.1)
    have HPR := hide (hpr.below BI.out)
    have HFO := hide hF
    clear hA hF hpr
    go_wp2_with fail
    refine (itreesAt fa _ fc bs L (some ⟨w1.heap.size, 0, none⟩) 2 2 [r, s] _ (by omega) HPR.out (HFO.out.2.2.1.below BI.out) RI.out).mono ?_
    rintro e w2 ⟨b2, h2⟩
    have B2 : Hid (Below w.heap.size w w2) := (B1.out.trans (BI.out.mono B1.out.size)).trans (b2.mono (Nat.le_trans B1.out.size BI.out.size))
    obtain ⟨q, hq⟩ : ∃ q, (w1.alloc (.cells #[.int .i64 r, .int .i64 s] 3)).heap.size = q := ⟨_, rfl⟩
    rw [hq] at h2
    clear b2 hq
    rcases h2 with ⟨hR, ts, tc, rfl, ot, hT, -⟩ | ⟨hR, rfl⟩
    · have htl : ts.length = 2 := hT.1
      obtain ⟨t0, t1, hts⟩ : ∃ t0 t1, ts = [t0, t1] := by
        match ts, htl with
        | [a, b], _ => exact ⟨a, b, rfl⟩
      subst hts
      have c0 : w2.cell? ⟨q, 0, none⟩ = some (.pointer (some ⟨t0, 0, none⟩)) := by
        rw [← addr_at]
        exact ot.cells (g := q) rfl 0 _ rfl
      have c1 : w2.cell? ⟨q, 1, none⟩ = some (.pointer (some ⟨t1, 0, none⟩)) := by
        rw [← addr_at]
        exact ot.cells (g := q) rfl 1 _ rfl
      have ql := (own_kind ot q rfl).2.1
      have T0 := hide (hT.2 0 t0 r rfl rfl)
      have T1 := hide (hT.2 1 t1 s rfl rfl)
      have E : Hid (shareT L r s = shareN L r s) := by
        show _ = _
        simp only [List.all_cons, List.all_nil, Bool.and_true, Bool.and_eq_true] at hR
        rw [shareT, HA.out, hR.1, hR.2]
        rfl
      clear hR ot hT htl
      simp only [List.length_cons, List.length_nil]
      go_wp2_with fail
      refine (iknotsT t1 bs L s w2 HA.out T1.out).mono ?_
      rintro e w3 ⟨v1, K1, rfl, k1, -, k1l, k1m⟩
      have KS1 := hide k1
      have KM1 := hide k1m
      obtain ⟨fa1, fc1, hv1, -⟩ := PRow.of k1.1
      subst hv1
      have c03 : w3.cell? ⟨q, 0, none⟩ = some (.pointer (some ⟨t0, 0, none⟩)) := (k1.2.cell (show q < w2.heap.size from ql)).trans c0
      clear k1 k1m c0 c1
      go_wp2_with fail
      refine (iknotsT t0 bs L r w3 HA.out (T0.out.below KS1.out.2)).mono ?_
      rintro e w4 ⟨v0, K0, rfl, k0, k0n, k0l, k0m⟩
      have KS0 := hide k0
      have KM0 := hide k0m
      have KN0 := hide k0n
      obtain ⟨fa0, fc0, hv0, -⟩ := PRow.of k0.1
      subst hv0
      have LKS : Hid (∀ d, (∃ i, bs[i]? = some d) → ∃ y, LkAt w4 d y) := fun d hd => by
        obtain ⟨i, hi⟩ := hd
        have hf := ((T0.out.1.below KS1.out.2).below KS0.out.2)
        have hl := (List.getElem?_eq_some_iff.1 hi).1
        exact ⟨_, hf.2 i d _ hi (List.getElem?_eq_getElem (by rw [← hf.1]; exact hl))⟩
      have PR1 : Hid (PRow w4 fa1 K1.length K1) := by
        obtain ⟨fa', fc', e, hp⟩ := PRow.of (own_below KS1.out.1 KS0.out.2)
        injection e with e1 e2 e3
        subst e1
        exact hp
      have PR0 : Hid (PRow w4 fa0 K0.length K0) := by
        obtain ⟨fa', fc', e, hp⟩ := PRow.of KS0.out.1
        injection e with e1 e2 e3
        subst e1
        exact hp
      have CNT : Hid (K0.countP (fun d => decide (d ∈ K1)) = shareN L r s) := share_is HFO.out.2.2.2.1 HFO.out.2.1 KN0.out KM0.out KM1.out
      have B4 : Hid (Below w.heap.size w w4) := (B2.out.trans (KS1.out.2.mono B2.out.size)).trans (KS0.out.2.mono (Nat.le_trans B2.out.size KS1.out.2.size))
      obtain ⟨n0, hn0⟩ : ∃ n, K0.length = n := ⟨_, rfl⟩
      obtain ⟨n1, hn1⟩ : ∃ n, K1.length = n := ⟨_, rfl⟩
      rw [hn0] at k0l PR0 ⊢
      rw [hn1] at k1l PR1 ⊢
      have HN0 := hide hn0
      clear k0 k0m k0n c03 hn0 hn1 KS0 KS1 T0 T1 HFO HPR RI BI
      go_wp2
      go_loopw [11, 43] (fun cv iv W => ∃ (k c : Nat), k ≤ n0 ∧ iv = .int .i64 k ∧ cv = .int .i64 c ∧ c ≤ k ∧ Hid (c = (K0.take k).countP (fun d => decide (d ∈ K1))) ∧ Hid (SameW W w4)) (fun _ iv _ => n0 - (intOf iv).toNat)
      case atStart => exact ⟨0, 0, Nat.zero_le _, rfl, rfl, Nat.le_refl _, rfl, hide rfl⟩
      case round =>
        obtain ⟨k, c, hk, rfl, rfl, hck, HCN, HWW⟩ := hrel
        have hww : wr = w4 := HWW.out
        subst hww
        clear HWW
        by_cases hlt : (k : Int) < n0
        · obtain ⟨d, hd⟩ : ∃ d, K0[k]? = some d := ⟨_, List.getElem?_eq_getElem (by have := HN0.out; omega)⟩
          obtain ⟨g, rfl, -, hcell⟩ := PR0.out.at hd
          have kk : (0 : Int) ≤ k := by omega
          unfold ptr at hcell
          have LKD : Hid (∃ y, LkAt wr d y) := LKS.out d (by obtain ⟨i, hi, -⟩ := (KM0.out d).1 (List.mem_of_getElem? hd); exact ⟨i, hi⟩)
          have HST : Hid ((K0.take (k + 1)).countP (fun d => decide (d ∈ K1)) = c + (if decide (d ∈ K1) = true then 1 else 0)) := by
            show _ = _
            rw [List.take_add_one, hd, List.countP_append, ← HCN.out]
            simp only [Option.toList_some, List.countP_singleton]
          clear hd
          go_wp2_with fail
          refine (icontains fa1 n1 fc1 K1 d wr (by omega) PR1.out (fun b hb => LKS.out b (by obtain ⟨i, hi, -⟩ := (KM1.out b).1 hb; exact ⟨i, hi⟩)) LKD.out).mono ?_
          rintro e w5 ⟨rfl, rfl⟩
          by_cases hm : d ∈ K1
          · rw [decide_eq_true hm] at HST ⊢
            clear hm
            have HS2 : Hid ((K0.take (k + 1)).countP (fun d => decide (d ∈ K1)) = c + 1) := HST.out
            clear HST
            go_wp2
            go_roundw
            case rel => exact ⟨k + 1, c + 1, by omega, by go_num, by go_num, by omega, HS2.out.symm, hide rfl⟩
            case measure => simp [intOf]; omega
          · rw [decide_eq_false hm] at HST ⊢
            clear hm
            have HS2 : Hid ((K0.take (k + 1)).countP (fun d => decide (d ∈ K1)) = c) := HST.out
            clear HST
            go_wp2
            go_roundw
            case rel => exact ⟨k + 1, c, by omega, by go_num, rfl, by omega, HS2.out.symm, hide rfl⟩
            case measure => simp [intOf]; omega
        · have EE : Hid (shareT L r s = (c : Int)) := by
            show _ = _
            rw [E.out, ← CNT.out, HCN.out, List.take_of_length_le (by have := HN0.out; omega)]
          clear PR0 PR1
          go_wp2
          go_ret
          exact ⟨congrArg (fun q => Ending.returned (.int .i64 q)) EE.out.symm, B4.out⟩
    · have E : Hid (shareT L r s = 0) := by
        show _ = _
        rw [shareT, if_neg]
        simp only [List.all_cons, List.all_nil, Bool.and_true] at hR
        rw [Bool.and_assoc, hR]
        simp
      clear hR
      go_wp2
      go_ret
      exact ⟨congrArg (fun q => Ending.returned (.int .i64 q)) E.out.symm, B2.out⟩
  · have E : Hid (shareT L r s = 0) := by
      show _ = _
      rw [shareT, if_neg]
      rw [hA]
      simp
    clear hA
    go_wp2_with fail
    refine (itreesAt none 0 0 [] [] (some ⟨w1.heap.size, 0, none⟩) 2 2 [r, s] _ (by omega) ⟨rfl, by unfold maxLen; omega, fun h => by omega⟩ (FAt.nil _) RI.out).mono ?_
    rintro e w2 ⟨b2, h2⟩
    have B2 : Hid (Below w.heap.size w w2) := (B1.out.trans (BI.out.mono B1.out.size)).trans (b2.mono (Nat.le_trans B1.out.size BI.out.size))
    obtain ⟨v2, ok2, rfl⟩ : ∃ v ok, e = .returned (.tuple #[v, .bool ok]) := by
      rcases h2 with ⟨-, ts, tc, rfl, -⟩ | ⟨-, rfl⟩
      · exact ⟨_, _, rfl⟩
      · exact ⟨_, _, rfl⟩
    clear b2 h2
    go_wp2
    go_ret
    exact ⟨congrArg (fun q => Ending.returned (.int .i64 q)) E.out.symm, B2.out⟩
end Go.Proofs.Ytnebelflnpbbiar
