/-
  FnExactFreeBlocks.
-/
import Derived.Test.YtcbhbjglgkaabaoLawB
import Derived.Test.YtcbhbjglgkaabaoIntL
import Derived.Test.YtcbhbjglgkaabaoSFree
import Derived.Test.YtcbhbjglgkaabaoFMark
import Derived.Deep.RegionHeld3
namespace Go.Proofs.Ytcbhbjglgkaabao
open Go.RowKit

/-- A flash in blocks from lo on and below hi. -/
def Fla (lo hi : Nat) (v : Value) (bs : List Bk) : World → Prop := fun W => Inn W lo hi v bs
theorem Fla.loc (lo hi : Nat) (v : Value) (bs : List Bk) : Loc lo hi (Fla lo hi v bs) := fun _ _ hk h => h.kept hk
theorem to_tk {w wi : World} {hs : List Hold} {a : Option Addr} {len cap : Nat} {rs : List Rw} {bs : List Bk} (T : Tk w wi hs) (H : BkRow w a len rs) (hbs : rs.map tellOf = bs) (hl : len ≤ 1048576) (hll : ∀ q ∈ rs, q.2.2.2.length ≤ 1048576) :
    Calls Try.prog 7 #[.agg #[.slice a len cap]] wi fun e w' => ∃ ad c, e = .returned (.agg #[.slice ad bs.length c]) ∧ Tk w w' ((wi.heap.size, w'.heap.size, Fla wi.heap.size w'.heap.size (.slice ad bs.length c) bs) :: hs) ∧ wi.heap.size ≤ w'.heap.size := by
  refine (toFlash_any a len cap rs wi hl hll (H.below T.1)).mono ?_
  rintro e w2 ⟨v1, rfl, f1, b2⟩
  rw [hbs] at f1
  have T2 := T.add b2 (Fla.loc _ _ v1 bs) f1
  obtain ⟨ad1, cap1, rfl⟩ := f1.form
  exact ⟨ad1, cap1, rfl, T2, b2.size⟩
theorem eq_tk {w wi : World} {hs : List Hold} {u v : Value} {l1 h1 l2 h2 : Nat} {bs : List Bk} (T : Tk w wi hs) (n1 n2 : Nat) (ho : Okk bs) (e1 : hs[n1]? = some (l1, h1, Fla l1 h1 u bs)) (e2 : hs[n2]? = some (l2, h2, Fla l2 h2 v bs)) :
    Calls Try.prog 10 #[.agg #[u], .agg #[v]] wi fun e w' => e = .returned (.bool true) ∧ Tk w w' hs ∧ wi.heap.size ≤ w'.heap.size := by
  refine (eq_of _ _ bs _ _ _ _ wi ho ⟨T.hi n1 e1, T.get n1 e1⟩ ⟨T.hi n2 e2, T.get n2 e2⟩).mono ?_
  rintro e w2 ⟨rfl, b2⟩
  exact ⟨rfl, T.below b2, b2.size⟩
theorem sfree_tk {w wi : World} {hs : List Hold} {u : Value} {l1 h1 : Nat} {bs : List Bk} {F : List Int} (T : Tk w wi hs) (n1 : Nat) (ho : Okk bs) (e1 : hs[n1]? = some (l1, h1, Fla l1 h1 u bs)) (hF : freeL bs = F) :
    Calls Try.prog 6 #[.agg #[u]] wi fun e w' => ∃ ad c, e = .returned (.slice ad F.length c) ∧ Tk w w' ((wi.heap.size, w'.heap.size, Ints wi.heap.size w'.heap.size (.slice ad F.length c) F) :: hs) ∧ wi.heap.size ≤ w'.heap.size := by
  obtain ⟨ss, e3, i1, l, ll, -⟩ := (T.get n1 e1).lens ho
  subst e3
  refine (sfree_any u ss l1 h1 wi l ll (T.hi n1 e1) i1).mono ?_
  rintro e w2 ⟨v1, rfl, f1, b2⟩
  rw [hF] at f1
  have T2 := T.add b2 (Ints.loc _ _ v1 F) (Ints.of f1)
  obtain ⟨ad1, cap1, rfl, -⟩ := (Ints.of f1).form
  exact ⟨ad1, cap1, rfl, T2, b2.size⟩
theorem ifree_tk {w wi : World} {hs : List Hold} {u : Value} {l1 h1 : Nat} {bs : List Bk} {F : List Int} (T : Tk w wi hs) (n1 : Nat) (ho : Okk bs) (e1 : hs[n1]? = some (l1, h1, Fla l1 h1 u bs)) (hF : freeL bs = F) :
    Calls Try.prog 8 #[.agg #[u]] wi fun e w' => ∃ ad c, e = .returned (.slice ad F.length c) ∧ Tk w w' ((wi.heap.size, w'.heap.size, Ints wi.heap.size w'.heap.size (.slice ad F.length c) F) :: hs) ∧ wi.heap.size ≤ w'.heap.size := by
  obtain ⟨ss, e3, i1, l, ll, -⟩ := (T.get n1 e1).lens ho
  subst e3
  refine (ifree_any u ss l1 h1 wi l ll (T.hi n1 e1) i1).mono ?_
  rintro e w2 ⟨v1, rfl, f1, b2⟩
  rw [hF] at f1
  have T2 := T.add b2 (Ints.loc _ _ v1 F) (Ints.of f1)
  obtain ⟨ad1, cap1, rfl, -⟩ := (Ints.of f1).form
  exact ⟨ad1, cap1, rfl, T2, b2.size⟩
theorem eqi_tk {w wi : World} {hs : List Hold} {u v : Value} {l1 h1 l2 h2 : Nat} {F : List Int} (T : Tk w wi hs) (n1 n2 : Nat) (hl : F.length ≤ 1000000000) (e1 : hs[n1]? = some (l1, h1, Ints l1 h1 u F)) (e2 : hs[n2]? = some (l2, h2, Ints l2 h2 v F)) :
    Calls Try.prog 9 #[u, v] wi fun e w' => e = .returned (.bool true) ∧ Tk w w' hs ∧ wi.heap.size ≤ w'.heap.size := by
  refine (eqInts_any _ _ _ _ _ _ F wi hl (T.get n1 e1) (T.get n2 e2)).mono ?_
  rintro e w2 ⟨rfl, b2⟩
  exact ⟨rfl, T.below b2, b2.size⟩
/-- A flash is marked: it is spoilt, and what lies apart from it stays. -/
theorem mark_tk {w wi : World} {hs hs' : List Hold} {u : Value} {l1 h1 : Nat} {bs : List Bk} (T : Tk w wi hs) (n1 : Nat) (ho : Okk bs) (e1 : hs[n1]? = some (l1, h1, Fla l1 h1 u bs)) (hlo : w.heap.size ≤ l1) (hh : ∀ x ∈ hs', x ∈ hs ∧ (x.2.1 ≤ l1 ∨ h1 ≤ x.1)) :
    Calls Try.prog 11 #[.agg #[u], .int .i64 1] wi fun e w' => e = .returned (.int .i64 ((endK 1 bs : Nat) : Int)) ∧ Tk w w' hs' ∧ wi.heap.size ≤ w'.heap.size := by
  obtain ⟨rs, e3, i1, l, ll, e2⟩ := (T.get n1 e1).lens ho
  refine (markFlash_any u rs l1 h1 wi l ll (by rw [e2]; exact ho.2.2) (T.hi n1 e1) i1).mono ?_
  rintro e w2 ⟨rfl, h2, h3⟩
  rw [e2]
  exact ⟨rfl, T.spoil (show Kept2 wi w2 (Apt l1 h1) from h3.out) hlo (T.hi n1 e1) hh, h3.out.2.2.2.1⟩
theorem marki_tk {w wi : World} {hs hs' : List Hold} {u : Value} {l1 h1 : Nat} {F : List Int} (T : Tk w wi hs) (n1 : Nat) (hl : F.length ≤ 1000000000) (e1 : hs[n1]? = some (l1, h1, Ints l1 h1 u F)) (hlo : w.heap.size ≤ l1) (hh : ∀ x ∈ hs', x ∈ hs ∧ (x.2.1 ≤ l1 ∨ h1 ≤ x.1)) :
    Calls Try.prog 12 #[u, .int .i64 1] wi fun e w' => e = .returned (.int .i64 (1 + (F.length : Int))) ∧ Tk w w' ((l1, h1, Ints l1 h1 u (upFrom 1 F.length)) :: hs') ∧ wi.heap.size ≤ w'.heap.size := by
  refine (markInts_any l1 h1 u F 1 wi hl (by omega) (by omega) (T.get n1 e1)).mono ?_
  rintro e w2 ⟨rfl, h2, h3⟩
  exact ⟨rfl, T.touch h3.out hlo (T.hi n1 e1) (Ints.loc _ _ _ _) h2.out hh, h3.out.2.2.2.1⟩
theorem heldi_tk {w wi : World} {hs : List Hold} {u : Value} {l1 h1 n : Nat} (T : Tk w wi hs) (n1 : Nat) (hl : n ≤ 1000000000) (e1 : hs[n1]? = some (l1, h1, Ints l1 h1 u (upFrom 1 n))) :
    Calls Try.prog 13 #[u, .int .i64 1] wi fun e w' => e = .returned (.int .i64 (1 + (n : Int))) ∧ Tk w w' hs ∧ wi.heap.size ≤ w'.heap.size := by
  refine (heldInts_any l1 h1 u n 1 wi hl (by omega) (by omega) (T.get n1 e1)).mono ?_
  rintro e w2 ⟨rfl, rfl⟩
  exact ⟨rfl, T, Nat.le_refl _⟩

set_option maxHeartbeats 1600000 in
set_option maxRecDepth 100000 in
theorem lawFr_any (a : Option Addr) (len cap : Nat) (rs : List Rw) (w : World) (h : BkRow w a len rs) :
    Calls Try.prog 3 #[.agg #[.slice a len cap]] w fun e w' => e = .returned (.bool true) ∧ Below w.heap.size w w' := by
  obtain ⟨bs, hbs⟩ : ∃ bs, rs.map tellOf = bs := ⟨_, rfl⟩
  obtain ⟨F, hF⟩ : ∃ F, freeL bs = F := ⟨_, rfl⟩
  have T0 := hide ((Tk.start w).cell #[.slice a len cap] 24)
  have HZ0 := hide (show (w.alloc (.cells #[.slice a len cap] 24)).heap.size = w.heap.size + 1 by simp)
  have H := hide h
  have HBS := hide hbs
  have HF := hide hF
  have hlen := h.1
  have hfl : F.length ≤ len := by
    rw [← hF, ← hlen, ← List.length_map (f := tellOf), hbs]
    exact freeTo_len bs bs.length
  clear h hbs hF
  go_enter Try.func3, Try.ntmps3
  go_wp2_with fail
  generalize w.alloc (.cells #[.slice a len cap] 24) = w0 at T0 HZ0 ⊢
  refine (szFlash_any a len cap rs 1048576 _ (Nat.le_refl _) (H.out.below T0.out.1)).mono ?_
  rintro e w1 ⟨⟨r, rfl, r1, r2, -⟩, b1⟩
  have T1 := hide (T0.out.below b1)
  have s1 := b1.size
  have k1 : w1.cell? ⟨w.heap.size, 0, none⟩ = some (.slice a len cap) := T1.out.at 0 0 rfl rfl
  clear b1 T0
  by_cases hr : r < 0
  · clear r2
    go_wp2
    go_ret
    exact ⟨rfl, T1.out.1⟩
  · obtain ⟨hl, hll, ho⟩ := meas (by omega) (r2 (by omega))
    rw [HBS.out] at ho
    have HLL := hide hll
    have HO := hide ho
    have hl2 : len ≤ 1048576 := by omega
    have HLE := hide hl2
    have hfm : F.length ≤ 1000000000 := by omega
    have HFM := hide hfm
    have q1 : w.heap.size + 1 ≤ w1.heap.size := by have := HZ0.out; omega
    obtain ⟨m, hm⟩ : ∃ m, F.length = m := ⟨_, rfl⟩
    have HM := hide hm
    clear r2 hll ho hl2 hm s1
    -- what is wanted
    go_wp2_with fail
    refine (to_tk T1.out H.out HBS.out HLE.out HLL.out).mono ?_
    rintro e w2 ⟨ad2, c2, rfl, t2, s2⟩
    have T2 := hide t2
    clear t2 T1 k1
    go_wp2_with fail
    refine (sfree_tk T2.out 0 HO.out rfl HF.out).mono ?_
    rintro e w3 ⟨ad3, c3, rfl, t3, s3⟩
    rw [HM.out] at t3 ⊢
    have T3 := hide t3
    have k3 : w3.cell? ⟨w.heap.size, 0, none⟩ = some (.slice a len cap) := T3.out.at 2 0 rfl rfl
    clear t3 T2
    -- what is answered
    go_wp2_with fail
    refine (to_tk T3.out H.out HBS.out HLE.out HLL.out).mono ?_
    rintro e w4 ⟨ad4, c4, rfl, t4, s4⟩
    have T4 := hide (t4.cell #[.slice ad4 bs.length c4] 30)
    have HZ4 := hide (show (w4.alloc (.cells #[.slice ad4 bs.length c4] 30)).heap.size = w4.heap.size + 1 by simp)
    clear t4 T3 k3
    go_wp2_with fail
    generalize w4.alloc (.cells #[.slice ad4 bs.length c4] 30) = w4a at T4 HZ4 ⊢
    refine (ifree_tk T4.out 1 HO.out rfl HF.out).mono ?_
    rintro e w5 ⟨ad5, c5, rfl, t5, s5⟩
    rw [HM.out] at t5 ⊢
    have T5 := hide t5
    clear t5 T4
    go_wp2_with fail
    refine (eqi_tk T5.out 0 3 HFM.out rfl rfl).mono ?_
    rintro e w6 ⟨rfl, t6, s6⟩
    have T6 := hide t6
    have T6d := hide t6.drew
    have k6 : w6.cell? ⟨w.heap.size, 0, none⟩ = some (.slice a len cap) := T6.out.at 5 0 rfl rfl
    have x6 : w6.cell? ⟨w4.heap.size, 0, none⟩ = some (.slice ad4 bs.length c4) := T6.out.at 1 0 rfl rfl
    clear t6 T5
    go_wp2
    go_region_held3 (fun w' => w'.cell? ⟨w4.heap.size, 0, none⟩ = some (.slice ad4 bs.length c4) ∧ w'.cell? ⟨w.heap.size, 0, none⟩ = some (.slice a len cap)) (first | go_keep | exact ⟨T7.out.at 2 0 rfl rfl, T7.out.at 6 0 rfl rfl⟩ | exact ⟨T8.out.at 2 0 rfl rfl, T8.out.at 6 0 rfl rfl⟩) (first
      | (go_at_call 7; (with_reducible refine Calls.mono (to_tk T6d.out H.out HBS.out HLE.out HLL.out) ?_); rintro en w7 ⟨ad7, c7, rfl, t7, s7⟩; have T7 := hide t7; clear t7)
      | (go_at_call 10; (with_reducible refine Calls.mono (eq_tk T7.out 3 0 HO.out rfl rfl) ?_); rintro en w8 ⟨rfl, t8, s8⟩; have T8 := hide t8; clear t8))
    all_goals
      clear T6 T6d T7 k6 x6
      have q8 : w6.heap.size ≤ w8.heap.size := by simp at s7; omega
      have x8 : w8.cell? ⟨w4.heap.size, 0, none⟩ = some (.slice ad4 bs.length c4) := T8.out.at 2 0 rfl rfl
      have q4 := HZ4.out
      -- the argument is marked
      have M8 : Hid (Tk w w8 [(w4a.heap.size, w5.heap.size, Ints w4a.heap.size w5.heap.size (.slice ad5 m c5) F), (w2.heap.size, w3.heap.size, Ints w2.heap.size w3.heap.size (.slice ad3 m c3) F), (w.heap.size, w.heap.size + 1, Cel w.heap.size #[.slice a len cap] 24), (w3.heap.size, w4.heap.size, Fla w3.heap.size w4.heap.size (.slice ad4 bs.length c4) bs)]) := T8.out.drop (by intro x hx; simp only [List.mem_cons, List.not_mem_nil, or_false] at hx ⊢; rcases hx with h | h | h | h <;> simp only [h, true_or, or_true])
      clear T8
      go_wp2_with fail
      refine (mark_tk (hs' := [(w4a.heap.size, w5.heap.size, Ints w4a.heap.size w5.heap.size (.slice ad5 m c5) F), (w2.heap.size, w3.heap.size, Ints w2.heap.size w3.heap.size (.slice ad3 m c3) F), (w.heap.size, w.heap.size + 1, Cel w.heap.size #[.slice a len cap] 24)]) M8.out 3 HO.out rfl (by omega) (by
        intro x hx
        simp only [List.mem_cons, List.not_mem_nil, or_false] at hx ⊢
        rcases hx with h | h | h <;> subst h
        · exact ⟨Or.inl rfl, Or.inr (by show w4.heap.size ≤ w4a.heap.size; omega)⟩
        · exact ⟨Or.inr (Or.inl rfl), Or.inl (Nat.le_refl _)⟩
        · exact ⟨Or.inr (Or.inr (Or.inl rfl)), Or.inl (by show w.heap.size + 1 ≤ w3.heap.size; omega)⟩)).mono ?_
      rintro e w9 ⟨rfl, t9, s9⟩
      have T9 := hide t9
      have hE : (0 : Int) ≤ ((endK 1 bs : Nat) : Int) := by omega
      generalize ((endK 1 bs : Nat) : Int) = E at hE ⊢
      clear t9 M8 x8
      go_wp2_with fail
      refine (eqi_tk T9.out 0 1 HFM.out rfl rfl).mono ?_
      rintro e w10 ⟨rfl, t10, s10⟩
      have T10 := hide t10
      clear t10 T9
      -- the answer is marked, and held
      go_wp2_with fail
      refine (marki_tk (hs' := [(w2.heap.size, w3.heap.size, Ints w2.heap.size w3.heap.size (.slice ad3 m c3) F), (w.heap.size, w.heap.size + 1, Cel w.heap.size #[.slice a len cap] 24)]) T10.out 0 HFM.out rfl (by omega) (by
        intro x hx
        simp only [List.mem_cons, List.not_mem_nil, or_false] at hx ⊢
        rcases hx with h | h <;> subst h
        · exact ⟨Or.inr (Or.inl rfl), Or.inl (by show w3.heap.size ≤ w4a.heap.size; omega)⟩
        · exact ⟨Or.inr (Or.inr rfl), Or.inl (by show w.heap.size + 1 ≤ w4a.heap.size; omega)⟩)).mono ?_
      rintro e w11 ⟨rfl, t11, s11⟩
      rw [HM.out] at t11 ⊢
      have T11 := hide t11
      have hmm : m ≤ 1000000000 := by have := HM.out; omega
      have HMM := hide hmm
      clear t11 T10
      go_wp2_with fail
      refine (heldi_tk T11.out 0 HMM.out rfl).mono ?_
      rintro e w12 ⟨rfl, t12, s12⟩
      have T12 := hide t12
      have k12 : w12.cell? ⟨w.heap.size, 0, none⟩ = some (.slice a len cap) := T12.out.at 2 0 rfl rfl
      have hq0 : ¬ (1 : Int) + (m : Int) < 0 := by omega
      have hqq : (((1 : Int) + (m : Int)) != ((1 : Int) + (m : Int))) = false := by simp
      clear t12 T11
      -- again
      go_wp2_with fail
      refine (to_tk T12.out H.out HBS.out HLE.out HLL.out).mono ?_
      rintro e w13 ⟨ad13, c13, rfl, t13, s13⟩
      have T13 := hide t13
      clear t13 T12 k12
      go_wp2_with fail
      refine (ifree_tk T13.out 0 HO.out rfl HF.out).mono ?_
      rintro e w14 ⟨ad14, c14, rfl, t14, s14⟩
      rw [HM.out] at t14 ⊢
      have T14 := hide t14
      clear t14 T13
      go_wp2_with fail
      refine (eqi_tk T14.out 0 3 HFM.out rfl rfl).mono ?_
      rintro e w15 ⟨rfl, t15, s15⟩
      have T15 := hide t15
      clear t15 T14
      go_wp2_with fail
      refine (heldi_tk T15.out 2 HMM.out rfl).mono ?_
      rintro e w16 ⟨rfl, t16, s16⟩
      have T16 := hide t16
      clear t16 T15
      go_wp2
      go_ret
      exact ⟨rfl, T16.out.1⟩
end Go.Proofs.Ytcbhbjglgkaabao
