/-
  FnExactScanAll.
-/
import Derived.Test.YtaolinlginloaadDoorPk12
import Derived.Test.YtaolinlginloaadDoorFdMk
import Derived.Test.YtaolinlginloaadDoorPk17
import Derived.Test.YtaolinlginloaadDoorPk48
import Derived.Deep.RegionHeld3
namespace Go.Proofs.YtaolinlginloaadDoor
open Go.RowKit
open Words Sums

theorem founds_len (bs : List Bk) : ∀ b, (founds bs b).length ≤ ((bs.take b).map (fun r => r.2.2.length)).sum
  | 0 => by simp [founds]
  | b + 1 => by
    have ih := founds_len bs b
    simp only [founds, List.length_append]
    cases hb : bs[b]? with
    | none =>
      have h1 : (foundsAt bs b ((none : Option Bk).map (fun r => r.2.2.length) |>.getD 0)).length = 0 := rfl
      have h2 : bs.take (b + 1) = bs.take b := by
        rw [List.take_of_length_le (List.getElem?_eq_none_iff.1 hb), List.take_of_length_le (by have := List.getElem?_eq_none_iff.1 hb; omega)]
      rw [h2, h1]
      omega
    | some r =>
      obtain ⟨h1, rfl⟩ := List.getElem?_eq_some_iff.1 hb
      have h2 := foundsAt_len bs b (bs[b].2.2.length)
      rw [List.take_succ_eq_append_getElem h1, List.map_append, List.sum_append]
      simp only [Option.map_some, Option.getD_some, List.map_cons, List.map_nil, List.sum_cons, List.sum_nil]
      omega
theorem endK_sum (k : Nat) (bs : List Bk) : k + (bs.map (fun r => r.2.2.length)).sum ≤ endK k bs := by
  induction bs generalizing k with
  | nil => simp [endK]
  | cons r bs ih =>
    simp only [endK, List.map_cons, List.sum_cons]
    have := ih (k + 2 + 2 * r.2.2.length)
    omega
theorem scan_len {bs : List Bk} {M : List Fnd} (ho : Okk bs) (h : Akin (founds bs bs.length) M) : M.length ≤ 1000000000 := by
  have h1 := akin_len h
  have h2 := founds_len bs bs.length
  have h3 := endK_sum 1 bs
  have h4 := ho.2.2
  rw [List.take_of_length_le (Nat.le_refl _)] at h2
  omega
/-- What a scan answers is one row alone. -/
theorem sscan_tk {w wi : World} {hs : List Hold} {u : Value} {l1 h1 : Nat} {bs : List Bk} (T : Tk w wi hs) (n1 : Nat) (ho : Okk bs) (htx : TxK bs) (e1 : hs[n1]? = some (l1, h1, Fla l1 h1 u bs)) :
    Calls Tryd.prog 6 #[.agg #[u]] wi fun e w' => ∃ ad c M, e = .returned (.slice ad M.length c) ∧ Hid (Asc M ∧ Akin (founds bs bs.length) M) ∧ Tk w w' ((wi.heap.size, w'.heap.size, Sli 49 wi.heap.size w'.heap.size (.slice ad M.length c) M.length (fcells M)) :: hs) ∧ wi.heap.size ≤ w'.heap.size := by
  obtain ⟨ss, e3, i1, l, ll, -⟩ := (T.get n1 e1).lens ho
  subst e3
  refine (sscan u ss l1 h1 wi l ll (by intro q hq t ht; exact htx _ (List.mem_map_of_mem (f := tellOf) hq) t ht) (T.hi n1 e1) i1).mono ?_
  rintro e w2 ⟨v1, M, rfl, m1, m2, m3, b2⟩
  have T2 := T.add b2 (Sli.loc _ _ _ v1 _ _) m3.sli
  obtain ⟨ad1, cap1, rfl, -⟩ := m3.sli.form
  rw [List.length_map]
  exact ⟨ad1, cap1, M, rfl, ⟨m1, m2⟩, T2, b2.size⟩
theorem iscan_tk {w wi : World} {hs : List Hold} {u : Value} {l1 h1 : Nat} {bs : List Bk} {M : List Fnd} (T : Tk w wi hs) (n1 : Nat) (ho : Okk bs) (htx : TxK bs) (hv : HalvIn w) (e1 : hs[n1]? = some (l1, h1, Fla l1 h1 u bs)) (hM : Asc M ∧ Akin (founds bs bs.length) M) :
    Calls Tryd.prog 8 #[.agg #[u]] wi fun e w' => ∃ ad c, e = .returned (.slice ad M.length c) ∧ Tk w w' ((wi.heap.size, w'.heap.size, Sli 49 wi.heap.size w'.heap.size (.slice ad M.length c) M.length (fcells M)) :: hs) ∧ wi.heap.size ≤ w'.heap.size := by
  obtain ⟨ss, e3, i1, l, ll, -⟩ := (T.get n1 e1).lens ho
  subst e3
  refine (iscan u ss l1 h1 wi l ll (by intro q hq t ht; exact htx _ (List.mem_map_of_mem (f := tellOf) hq) t ht) (T.hi n1 e1) i1 (hv.on T.1)).mono ?_
  rintro e w2 ⟨v1, M', rfl, m1, m2, m3, b2⟩
  rw [List.length_map] at hM
  have e : M' = M := Akin.eq (m2.symm.trans hM.2) m1 hM.1
  subst e
  have T2 := T.add b2 (Sli.loc _ _ _ v1 _ _) m3.sli
  obtain ⟨ad1, cap1, rfl, -⟩ := m3.sli.form
  exact ⟨ad1, cap1, rfl, T2, b2.size⟩
theorem eqfd_tk {w wi : World} {hs : List Hold} {u v : Value} {l1 h1 l2 h2 n : Nat} {M : List Fnd} (T : Tk w wi hs) (n1 n2 : Nat) (hl : M.length ≤ 1000000000) (hn : M.length = n) (e1 : hs[n1]? = some (l1, h1, Sli 49 l1 h1 u n (fcells M))) (e2 : hs[n2]? = some (l2, h2, Sli 49 l2 h2 v n (fcells M))) :
    Calls Tryd.prog 9 #[u, v] wi fun e w' => e = .returned (.bool true) ∧ Tk w w' hs ∧ wi.heap.size ≤ w'.heap.size := by
  subst hn
  refine (eqFoundS_same _ _ M _ _ _ _ wi (by omega) (T.get n1 e1) (T.get n2 e2)).mono ?_
  rintro e w2 ⟨rfl, b2⟩
  exact ⟨rfl, T.below b2, b2.size⟩
theorem markfd_tk {w wi : World} {hs hs' : List Hold} {u : Value} {l1 h1 n : Nat} {M : List Fnd} (T : Tk w wi hs) (n1 : Nat) (hl : n ≤ 1000000000) (hn : M.length = n) (e1 : hs[n1]? = some (l1, h1, Sli 49 l1 h1 u n (fcells M))) (hlo : w.heap.size ≤ l1) (hh : ∀ x ∈ hs', x ∈ hs ∧ (x.2.1 ≤ l1 ∨ h1 ≤ x.1)) :
    Calls Tryd.prog 12 #[u, .int .i64 1] wi fun e w' => e = .returned (.int .i64 ((1 + n * 8 : Nat) : Int)) ∧ Tk w w' ((l1, h1, Sli 49 l1 h1 u n (mkFlat patFd 1 n)) :: hs') ∧ wi.heap.size ≤ w'.heap.size := by
  refine (markFd_any l1 h1 u n 1 (fcells M) wi hl (by rw [fcells_len, hn]) (by omega) (by omega) (T.hi n1 e1) (T.get n1 e1)).mono ?_
  rintro e w2 ⟨rfl, h2, h3⟩
  exact ⟨rfl, T.touch h3.out hlo (T.hi n1 e1) (Sli.loc _ _ _ _ _ _) h2.out hh, h3.out.2.2.2.1⟩
theorem heldfd_tk {w wi : World} {hs : List Hold} {u : Value} {l1 h1 n : Nat} (T : Tk w wi hs) (n1 : Nat) (hl : n ≤ 1000000000) (e1 : hs[n1]? = some (l1, h1, Sli 49 l1 h1 u n (mkFlat patFd 1 n))) :
    Calls Tryd.prog 13 #[u, .int .i64 1] wi fun e w' => e = .returned (.int .i64 ((1 + n * 8 : Nat) : Int)) ∧ Tk w w' hs ∧ wi.heap.size ≤ w'.heap.size := by
  refine (heldFd_any l1 h1 u n 1 wi hl (by omega) (by omega) (T.hi n1 e1) (T.get n1 e1)).mono ?_
  rintro e w2 ⟨rfl, b2⟩
  exact ⟨rfl, T.below b2, b2.size⟩

set_option maxHeartbeats 1600000 in
set_option maxRecDepth 100000 in
theorem lawSc_any (a : Option Addr) (len cap : Nat) (rs : List Rw) (w : World) (hv : HalvIn w) (h : BkRow w a len rs) :
    Calls Tryd.prog 3 #[.agg #[.slice a len cap]] w fun e w' => e = .returned (.bool true) ∧ Below w.heap.size w w' := by
  obtain ⟨bs, hbs⟩ : ∃ bs, rs.map tellOf = bs := ⟨_, rfl⟩
  have T0 := hide ((Tk.start w).cell #[.slice a len cap] 24)
  have HZ0 := hide (show (w.alloc (.cells #[.slice a len cap] 24)).heap.size = w.heap.size + 1 by simp)
  have H := hide h
  have HBS := hide hbs
  have HV := hide hv
  have hlen := h.1
  clear h hbs hv
  go_enter Tryd.func3, Tryd.ntmps3
  go_wp2_with fail
  generalize w.alloc (.cells #[.slice a len cap] 24) = w0 at T0 HZ0 ⊢
  refine (szFlash_any a len cap rs 1048576 _ (Nat.le_refl _) (H.out.below T0.out.1)).mono ?_
  rintro e w1 ⟨⟨r, rfl, r1, r2, r3⟩, b1⟩
  have T1 := hide (T0.out.below b1)
  have s1 := b1.size
  have k1 : w1.cell? ⟨w.heap.size, 0, none⟩ = some (.slice a len cap) := T1.out.at 0 0 rfl rfl
  clear b1 T0
  by_cases hr : r < 0
  · clear r2 r3
    go_wp2
    go_ret
    exact ⟨rfl, T1.out.1⟩
  · obtain ⟨hl, hll, ho⟩ := meas (by omega) (r2 (by omega))
    have htx := tx_tell (r3 (by omega))
    rw [HBS.out] at ho htx
    have HTX := hide htx
    have HLL := hide hll
    have HO := hide ho
    have hl2 : len ≤ 1048576 := by omega
    have HLE := hide hl2
    have q1 : w.heap.size + 1 ≤ w1.heap.size := by have := HZ0.out; omega
    clear r2 r3 hll ho htx hl2 s1
    -- what is wanted
    go_wp2_with fail
    refine (to_tk T1.out H.out HBS.out HLE.out HLL.out).mono ?_
    rintro e w2 ⟨ad2, c2, rfl, t2, s2⟩
    have T2 := hide t2
    clear t2 T1 k1
    go_wp2_with fail
    refine (sscan_tk T2.out 0 HO.out HTX.out rfl).mono ?_
    rintro e w3 ⟨ad3, c3, F, rfl, hF, t3, s3⟩
    obtain ⟨m, hm⟩ : ∃ m, F.length = m := ⟨_, rfl⟩
    have HM := hide hm
    have HF := hide hF.out
    have hfm : F.length ≤ 1000000000 := scan_len HO.out hF.out.2
    have HFM := hide hfm
    rw [hm] at t3 hfm ⊢
    have HMM0 := hide hfm
    clear hm hF
    have T3 := hide t3
    have k3 : w3.cell? ⟨w.heap.size, 0, none⟩ = some (.slice a len cap) := T3.out.at 2 0 rfl rfl
    clear t3 T2
    -- what is answered
    go_wp2_with fail
    refine (to_tk T3.out H.out HBS.out HLE.out HLL.out).mono ?_
    rintro e w4 ⟨ad4, c4, rfl, t4, s4⟩
    have T4 := hide (t4.cell #[.slice ad4 bs.length c4] 30)
    have HZ4 := hide (show (w4.alloc (.cells #[.slice ad4 bs.length c4] 30)).heap.size = w4.heap.size + 1 by simp)
    clear t4 T3 k3
    go_wp2_with fail
    generalize w4.alloc (.cells #[.slice ad4 bs.length c4] 30) = w4a at T4 HZ4 ⊢
    refine (iscan_tk T4.out 1 HO.out HTX.out HV.out rfl HF.out).mono ?_
    rintro e w5 ⟨ad5, c5, rfl, t5, s5⟩
    rw [HM.out] at t5 ⊢
    have T5 := hide t5
    clear t5 T4
    go_wp2_with fail
    refine (eqfd_tk T5.out 0 3 HFM.out HM.out rfl rfl).mono ?_
    rintro e w6 ⟨rfl, t6, s6⟩
    have T6 := hide t6
    have T6d := hide t6.drew
    have k6 : w6.cell? ⟨w.heap.size, 0, none⟩ = some (.slice a len cap) := T6.out.at 5 0 rfl rfl
    have x6 : w6.cell? ⟨w4.heap.size, 0, none⟩ = some (.slice ad4 bs.length c4) := T6.out.at 1 0 rfl rfl
    clear t6 T5
    go_wp2
    go_region_held3 (fun w' => w'.cell? ⟨w4.heap.size, 0, none⟩ = some (.slice ad4 bs.length c4) ∧ w'.cell? ⟨w.heap.size, 0, none⟩ = some (.slice a len cap)) (first | go_keep | exact ⟨T7.out.at 2 0 rfl rfl, T7.out.at 6 0 rfl rfl⟩ | exact ⟨T8.out.at 2 0 rfl rfl, T8.out.at 6 0 rfl rfl⟩) (first
      | (go_at_call 7; (with_reducible refine Calls.mono (to_tk T6d.out H.out HBS.out HLE.out HLL.out) ?_); rintro en w7 ⟨ad7, c7, rfl, t7, s7⟩; have T7 := hide t7; clear t7)
      | (go_at_call 10; (with_reducible refine Calls.mono (eq_tk T7.out 3 0 HO.out rfl rfl) ?_); rintro en w8 ⟨rfl, t8, s8⟩; have T8 := hide t8; clear t8))
    all_goals
      clear T6 T6d T7 k6 x6
      have q8 : w6.heap.size ≤ w8.heap.size := by simp at s7; omega
      have x8 : w8.cell? ⟨w4.heap.size, 0, none⟩ = some (.slice ad4 bs.length c4) := T8.out.at 2 0 rfl rfl
      have q4 := HZ4.out
      -- the argument is marked
      have M8 : Hid (Tk w w8 [(w4a.heap.size, w5.heap.size, Sli 49 w4a.heap.size w5.heap.size (.slice ad5 m c5) m (fcells F)), (w2.heap.size, w3.heap.size, Sli 49 w2.heap.size w3.heap.size (.slice ad3 m c3) m (fcells F)), (w.heap.size, w.heap.size + 1, Cel w.heap.size #[.slice a len cap] 24), (w3.heap.size, w4.heap.size, Fla w3.heap.size w4.heap.size (.slice ad4 bs.length c4) bs)]) := T8.out.drop (by intro x hx; simp only [List.mem_cons, List.not_mem_nil, or_false] at hx ⊢; rcases hx with h | h | h | h <;> simp only [h, true_or, or_true])
      clear T8
      go_wp2_with fail
      refine (mark_tk (hs' := [(w4a.heap.size, w5.heap.size, Sli 49 w4a.heap.size w5.heap.size (.slice ad5 m c5) m (fcells F)), (w2.heap.size, w3.heap.size, Sli 49 w2.heap.size w3.heap.size (.slice ad3 m c3) m (fcells F)), (w.heap.size, w.heap.size + 1, Cel w.heap.size #[.slice a len cap] 24)]) M8.out 3 HO.out rfl (by omega) (by
        intro x hx
        simp only [List.mem_cons, List.not_mem_nil, or_false] at hx ⊢
        rcases hx with h | h | h <;> subst h
        · exact ⟨Or.inl rfl, Or.inr (by show w4.heap.size ≤ w4a.heap.size; omega)⟩
        · exact ⟨Or.inr (Or.inl rfl), Or.inl (Nat.le_refl _)⟩
        · exact ⟨Or.inr (Or.inr (Or.inl rfl)), Or.inl (by show w.heap.size + 1 ≤ w3.heap.size; omega)⟩)).mono ?_
      rintro e w9 ⟨rfl, t9, s9⟩
      have T9 := hide t9
      have hE : (0 : Int) ≤ ((endK 1 bs : Nat) : Int) := by omega
      generalize ((endK 1 bs : Nat) : Int) = E at hE ⊢
      clear t9 M8 x8
      go_wp2_with fail
      refine (eqfd_tk T9.out 0 1 HFM.out HM.out rfl rfl).mono ?_
      rintro e w10 ⟨rfl, t10, s10⟩
      have T10 := hide t10
      clear t10 T9
      -- the answer is marked, and held
      go_wp2_with fail
      refine (markfd_tk (hs' := [(w2.heap.size, w3.heap.size, Sli 49 w2.heap.size w3.heap.size (.slice ad3 m c3) m (fcells F)), (w.heap.size, w.heap.size + 1, Cel w.heap.size #[.slice a len cap] 24)]) T10.out 0 HMM0.out HM.out rfl (by omega) (by
        intro x hx
        simp only [List.mem_cons, List.not_mem_nil, or_false] at hx ⊢
        rcases hx with h | h <;> subst h
        · exact ⟨Or.inr (Or.inl rfl), Or.inl (by show w3.heap.size ≤ w4a.heap.size; omega)⟩
        · exact ⟨Or.inr (Or.inr rfl), Or.inl (by show w.heap.size + 1 ≤ w4a.heap.size; omega)⟩)).mono ?_
      rintro e w11 ⟨rfl, t11, s11⟩
      have T11 := hide t11
      have HMM := hide HMM0.out
      obtain ⟨G, hG⟩ : ∃ G : Nat, 1 + m * 8 = G := ⟨_, rfl⟩
      have HG := hide hG
      rw [hG]
      clear hG
      clear t11 T10
      go_wp2_with fail
      refine (heldfd_tk T11.out 0 HMM.out rfl).mono ?_
      rintro e w12 ⟨rfl, t12, s12⟩
      rw [HG.out]
      have T12 := hide t12
      have k12 : w12.cell? ⟨w.heap.size, 0, none⟩ = some (.slice a len cap) := T12.out.at 2 0 rfl rfl
      have hq0 : ¬ (G : Int) < 0 := by omega
      have hqq : ((G : Int) != (G : Int)) = false := by simp
      clear t12 T11
      -- again
      go_wp2_with fail
      refine (to_tk T12.out H.out HBS.out HLE.out HLL.out).mono ?_
      rintro e w13 ⟨ad13, c13, rfl, t13, s13⟩
      have T13 := hide t13
      clear t13 T12 k12
      go_wp2_with fail
      refine (iscan_tk T13.out 0 HO.out HTX.out HV.out rfl HF.out).mono ?_
      rintro e w14 ⟨ad14, c14, rfl, t14, s14⟩
      rw [HM.out] at t14 ⊢
      have T14 := hide t14
      clear t14 T13
      go_wp2_with fail
      refine (eqfd_tk T14.out 0 3 HFM.out HM.out rfl rfl).mono ?_
      rintro e w15 ⟨rfl, t15, s15⟩
      have T15 := hide t15
      clear t15 T14
      go_wp2_with fail
      refine (heldfd_tk T15.out 2 HMM.out rfl).mono ?_
      rintro e w16 ⟨rfl, t16, s16⟩
      rw [HG.out]
      have T16 := hide t16
      clear t16 T15
      go_wp2
      go_ret
      exact ⟨rfl, T16.out.1⟩
theorem lawSc_card (a : Option Addr) (len cap : Nat) (rs : List Rw) {w : World} (h : BkRow w a len rs) (_ : World) (hv : HalvIn w) :
    Calls Tryd.prog 3 #[.agg #[.slice a len cap]] w fun e w' => e = .returned (.bool true) ∧ Below w.heap.size w w' := lawSc_any a len cap rs w hv h
end Go.Proofs.YtaolinlginloaadDoor
