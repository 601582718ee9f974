/-
  FnExactWipe.
-/
import Derived.Test.YtcfkbemlldfnnanLawM
import Derived.Test.YtcfkbemlldfnnanSWipe
import Derived.Test.YtcfkbemlldfnnanIWipe
import Derived.Deep.RegionHeld3
namespace Go.Proofs.Ytcfkbemlldfnnan
open Go.RowKit

theorem modify_shapeW (bs : List Bk) (k : Nat) (f : Bk → Bk) (h : ∀ r, bs[k]? = some r → (f r).2.2.length = r.2.2.length) : (bs.modify k f).map (fun r => r.2.2.length) = bs.map (fun r => r.2.2.length) := by
  apply List.ext_getElem?
  intro i
  rw [List.getElem?_map, List.getElem?_map, List.getElem?_modify]
  by_cases hi : k = i
  · subst hi
    cases hb : bs[k]? with
    | none => rfl
    | some r => simp [h r hb]
  · simp [hi]
theorem wipe_shape (bs : List Bk) (b : Int) : (wipeF bs b).1.map (fun r => r.2.2.length) = bs.map (fun r => r.2.2.length) := by
  unfold wipeF
  split
  · rename_i h
    rw [Bool.and_eq_true] at h
    exact modify_shapeW _ _ _ (fun r hr => by rw [flOk_four h.1 (List.mem_of_getElem? hr)]; rfl)
  · rfl
theorem swipe_trk {w wi : World} {cs : List (Nat × Value × TypeId)} {fs : List (Nat × Nat × Value × List Bk)} {ms : List (Nat × Nat × Value × Nat)} {u : Value} {l1 h1 : Nat} {bs : List Bk} {R1 : List Bk} {R2 : Bool} {b : Int} (T : Trk w wi cs fs ms) (n1 : Nat) (ho : Okk bs) (e1 : fs[n1]? = some (l1, h1, u, bs)) (hR : wipeF bs b = (R1, R2)) :
    Calls Try.prog 20 #[.agg #[u], .int .i64 b] wi fun e w' => ∃ ad c, e = .returned (.tuple #[.agg #[.slice ad R1.length c], .bool R2]) ∧ Trk w w' cs ((wi.heap.size, w'.heap.size, .slice ad R1.length c, R1) :: fs) ms ∧ wi.heap.size ≤ w'.heap.size := by
  obtain ⟨hh, i0⟩ := T.fl n1 e1
  obtain ⟨ss, e2, i1, l, ll, -⟩ := i0.lens ho
  subst e2
  refine (swipe_any _ ss _ _ b wi l ll hh i1).mono ?_
  rintro e w2 ⟨u1, rfl, f1, b2⟩
  rw [hR] at f1 ⊢
  have T2 := T.add b2 f1
  obtain ⟨ad1, cap1, rfl⟩ := f1.form
  exact ⟨ad1, cap1, rfl, T2, b2.size⟩
theorem iwipe_trk {w wi : World} {cs : List (Nat × Value × TypeId)} {fs : List (Nat × Nat × Value × List Bk)} {ms : List (Nat × Nat × Value × Nat)} {u : Value} {l1 h1 : Nat} {bs : List Bk} {R1 : List Bk} {R2 : Bool} {b : Int} (T : Trk w wi cs fs ms) (n1 : Nat) (ho : Okk bs) (htx : TxK bs) (e1 : fs[n1]? = some (l1, h1, u, bs)) (hR : wipeF bs b = (R1, R2)) :
    Calls Try.prog 21 #[.agg #[u], .int .i64 b] wi fun e w' => ∃ ad c, e = .returned (.tuple #[.agg #[.slice ad R1.length c], .bool R2]) ∧ Trk w w' cs ((wi.heap.size, w'.heap.size, .slice ad R1.length c, R1) :: fs) ms ∧ wi.heap.size ≤ w'.heap.size := by
  obtain ⟨hh, i0⟩ := T.fl n1 e1
  obtain ⟨ss, e2, i1, l, ll, -⟩ := i0.lens ho
  subst e2
  refine (iwipe_any _ ss _ _ b wi l ll (by intro q hq t ht; exact htx _ (List.mem_map_of_mem (f := tellOf) hq) t ht) hh i1).mono ?_
  rintro e w2 ⟨u1, rfl, f1, b2⟩
  rw [hR] at f1 ⊢
  have T2 := T.add b2 f1
  obtain ⟨ad1, cap1, rfl⟩ := f1.form
  exact ⟨ad1, cap1, rfl, T2, b2.size⟩

set_option maxHeartbeats 1600000 in
set_option maxRecDepth 100000 in
theorem lawWipe_any (a : Option Addr) (len cap : Nat) (rs : List Rw) (b : Int) (w : World) (h : BkRow w a len rs) :
    Calls Try.prog 5 #[.agg #[.slice a len cap], .int .i64 b] w fun e w' => e = .returned (.bool true) ∧ Below w.heap.size w w' := by
  obtain ⟨bs, hbs⟩ : ∃ bs, rs.map tellOf = bs := ⟨_, rfl⟩
  obtain ⟨R1, R2, hR⟩ : ∃ R1 R2, wipeF bs b = (R1, R2) := ⟨_, _, rfl⟩
  have T0 := hide (Trk.start w (.slice a len cap) 35)
  have H := hide h
  have HBS := hide hbs
  have HR := hide hR
  have hlen := h.1
  clear h hbs hR
  go_enter Try.func5, Try.ntmps5
  go_wp2_with fail
  refine (szFlash_any a len cap rs 1048576 _ (Nat.le_refl _) (H.out.below T0.out.1)).mono ?_
  rintro e w1 ⟨⟨r, rfl, r1, r2, r3⟩, b1⟩
  have T1 := hide (T0.out.below b1)
  have k1 : w1.cell? ⟨w.heap.size, 0, none⟩ = some (.slice a len cap) := T1.out.at 0 rfl
  clear b1 T0
  by_cases hr : r < 0
  · clear r2 r3
    go_wp2
    go_ret
    exact ⟨rfl, T1.out.1⟩
  · obtain ⟨hl, hll, ho⟩ := meas (by omega) (r2 (by omega))
    have htx := tx_tell (r3 (by omega))
    rw [HBS.out] at ho htx
    have hor : Okk R1 := (ho.shape (by rw [show R1 = (wipeF bs b).1 by rw [HR.out]]; exact wipe_shape bs b))
    have HLL := hide hll
    have HO := hide ho
    have HTX := hide htx
    have HOR := hide hor
    have hl2 : len ≤ 1048576 := by omega
    have HLE := hide hl2
    have q1 := T1.out.1.size
    obtain ⟨N, hN⟩ : ∃ N, endK 1 R1 = N := ⟨_, rfl⟩
    have hN9 := hor.2.2
    rw [hN] at hN9
    have HN := hide hN
    clear r2 r3 hll ho htx hor hl2 hN
    go_wp2_with fail
    refine (to_trk T1.out H.out HBS.out HLE.out HLL.out).mono ?_
    rintro e w2 ⟨ad1, cap1, rfl, t2, s2⟩
    have T2 := hide t2
    clear t2 T1 k1
    go_wp2_with fail
    refine (swipe_trk T2.out 0 HO.out rfl HR.out).mono ?_
    rintro e w3 ⟨ad3, cap3, rfl, t3, s3⟩
    have T3 := hide (t3.cell (.slice ad3 R1.length cap3) 39)
    have hz3 : (w3.alloc (.cells #[.slice ad3 R1.length cap3] 39)).heap.size = w3.heap.size + 1 := by simp
    have HZ3 := hide hz3
    have k3 : (w3.alloc (.cells #[.slice ad3 R1.length cap3] 39)).cell? ⟨w.heap.size, 0, none⟩ = some (.slice a len cap) := T3.out.at 1 rfl
    clear t3 T2 hz3
    go_wp2_with fail
    generalize w3.alloc (.cells #[.slice ad3 R1.length cap3] 39) = w3a at T3 HZ3 k3 ⊢
    refine (to_trk T3.out H.out HBS.out HLE.out HLL.out).mono ?_
    rintro e w4 ⟨ad4, cap4, rfl, t4, s4⟩
    have T4 := hide (t4.cell (.slice ad4 bs.length cap4) 39)
    have HZ4 := hide (show (w4.alloc (.cells #[.slice ad4 bs.length cap4] 39)).heap.size = w4.heap.size + 1 by simp)
    clear t4 T3 k3
    go_wp2_with fail
    generalize w4.alloc (.cells #[.slice ad4 bs.length cap4] 39) = w4a at T4 HZ4 ⊢
    refine (iwipe_trk T4.out 0 HO.out HTX.out rfl HR.out).mono ?_
    rintro e w5 ⟨ad5, cap5, rfl, t5, s5⟩
    have T5 := hide (t5.cell (.slice ad5 R1.length cap5) 39)
    have HZ5 := hide (show (w5.alloc (.cells #[.slice ad5 R1.length cap5] 39)).heap.size = w5.heap.size + 1 by simp)
    have k5 : (w5.alloc (.cells #[.slice ad5 R1.length cap5] 39)).cell? ⟨w3.heap.size, 0, none⟩ = some (.slice ad3 R1.length cap3) := T5.out.at 2 rfl
    clear t5 T4
    have hne : (R2 != R2) = false := by simp
    go_wp2_with fail
    generalize w5.alloc (.cells #[.slice ad5 R1.length cap5] 39) = w5a at T5 HZ5 k5 ⊢
    refine (eq_trk T5.out 0 2 HOR.out rfl rfl).mono ?_
    rintro e w6 ⟨rfl, t6, s6⟩
    have T6 := hide t6
    have T6d := hide t6.drew
    have k6 : w6.cell? ⟨w.heap.size, 0, none⟩ = some (.slice a len cap) := t6.at 3 rfl
    have x6 : w6.cell? ⟨w4.heap.size, 0, none⟩ = some (.slice ad4 bs.length cap4) := t6.at 1 rfl
    clear t6 T5 k5
    go_wp2
    go_region_held3 (fun w' => w'.cell? ⟨w4.heap.size, 0, none⟩ = some (.slice ad4 bs.length cap4) ∧ w'.cell? ⟨w.heap.size, 0, none⟩ = some (.slice a len cap)) (first | go_keep | exact ⟨T7.out.at 1 rfl, T7.out.at 3 rfl⟩ | exact ⟨T8.out.at 1 rfl, T8.out.at 3 rfl⟩) (first
      | (go_at_call 15; with_reducible refine Calls.mono (to_trk T6d.out H.out HBS.out HLE.out HLL.out) ?_; rintro en w7 ⟨ad7, cap7, rfl, t7, s7⟩; have T7 := hide t7; clear t7)
      | (go_at_call 17; with_reducible refine Calls.mono (eq_trk T7.out 2 0 HO.out rfl rfl) ?_; rintro en w8 ⟨rfl, t8, s8⟩; have T8 := hide t8; clear t8))
    all_goals
      have z3 := HZ3.out
      have z4 := HZ4.out
      have z5 := HZ5.out
      have s7' : w6.heap.size ≤ w7.heap.size := s7
      have x8 : w8.cell? ⟨w4.heap.size, 0, none⟩ = some (.slice ad4 bs.length cap4) := T8.out.at 1 rfl
      have hk0 : (0 : Int) ≤ ((endK 1 bs : Nat) : Int) := by omega
      have hN0 : (0 : Int) ≤ ((N : Nat) : Int) := by omega
      have hNN : (((N : Nat) : Int) != ((N : Nat) : Int)) = false := by simp
      have hcs : ∀ c ∈ [(w5.heap.size, Value.slice ad5 R1.length cap5, 39), (w4.heap.size, Value.slice ad4 bs.length cap4, 39), (w3.heap.size, Value.slice ad3 R1.length cap3, 39), (w.heap.size, Value.slice a len cap, 35)], (c.1 < w3a.heap.size ∨ w4.heap.size ≤ c.1) ∧ (c.1 < w4a.heap.size ∨ w5.heap.size ≤ c.1) := by
        intro c hc
        simp only [List.mem_cons, List.not_mem_nil, or_false] at hc
        rcases hc with rfl | rfl | rfl | rfl <;> simp only <;> omega
      have T8s := hide (T8.out.drop (fs' := [(w4a.heap.size, w5.heap.size, .slice ad5 R1.length cap5, R1), (w2.heap.size, w3.heap.size, .slice ad3 R1.length cap3, R1)]) (fun c h => h) (fun f hf => by
        rcases List.mem_cons.1 hf with rfl | hf
        · exact List.mem_of_getElem? (i := 1) rfl
        · rw [List.mem_singleton] at hf
          subst hf
          exact List.mem_of_getElem? (i := 3) rfl))
      have HCS := hide hcs
      have hlo1 : w.heap.size ≤ w3a.heap.size := by omega
      have hlo2 : w.heap.size ≤ w4a.heap.size := by omega
      have hf1 : ∀ f ∈ [(w4a.heap.size, w5.heap.size, Value.slice ad5 R1.length cap5, R1), (w2.heap.size, w3.heap.size, Value.slice ad3 R1.length cap3, R1)], f.2.1 ≤ w3a.heap.size ∨ w4.heap.size ≤ f.1 := by
        intro c hc
        simp only [List.mem_cons, List.not_mem_nil, or_false] at hc
        rcases hc with rfl | rfl <;> simp only <;> omega
      have hf2 : ∀ f ∈ [(w2.heap.size, w3.heap.size, Value.slice ad3 R1.length cap3, R1)], f.2.1 ≤ w4a.heap.size ∨ w5.heap.size ≤ f.1 := by
        intro c hc
        rw [List.mem_singleton] at hc
        subst hc
        simp only
        omega
      have HF1 := hide hf1
      have HF2 := hide hf2
      have hm2 : w4.heap.size ≤ w4a.heap.size := by omega
      clear hcs hf1 hf2 z3 z4 z5
      go_wp2_with fail
      refine (mark_of _ bs _ _ _ HO.out (T8.out.fl 2 rfl)).mono ?_
      rintro e w9 ⟨rfl, M9, K9⟩
      have T9 := hide (Trk.mark T8s.out K9.out M9.out (T8.out.fl 2 rfl).1 hlo1 (fun c hc => (HCS.out c hc).1) HF1.out (fun f hf => by cases hf))
      have g9 : w9.cell? ⟨w5.heap.size, 0, none⟩ = some (.slice ad5 R1.length cap5) := T9.out.at 0 rfl
      have v9 : w9.cell? ⟨w3.heap.size, 0, none⟩ = some (.slice ad3 R1.length cap3) := T9.out.at 2 rfl
      clear M9 K9 T8 T8s x8 HF1
      go_wp2_with fail
      refine (eq_trk T9.out 0 1 HOR.out rfl rfl).mono ?_
      rintro e w10 ⟨rfl, t10, -⟩
      have g10 : w10.cell? ⟨w5.heap.size, 0, none⟩ = some (.slice ad5 R1.length cap5) := t10.at 0 rfl
      have T10 := hide t10
      have T10s := hide (t10.drop (fs' := [(w2.heap.size, w3.heap.size, .slice ad3 R1.length cap3, R1)]) (fun c h => h) (fun f hf => by
        rw [List.mem_singleton] at hf
        subst hf
        exact List.mem_of_getElem? (i := 1) rfl))
      clear t10 T9 g9 v9
      go_wp2_with fail
      refine (mark_of _ R1 _ _ _ HOR.out (T10.out.fl 0 rfl)).mono ?_
      rintro e w11 ⟨rfl, M11, K11⟩
      rw [HN.out] at M11
      rw [HN.out]
      have T11 := hide (Trk.mark T10s.out K11.out M11.out (T10.out.fl 0 rfl).1 hlo2 (fun c hc => (HCS.out c hc).2) HF2.out (fun f hf => by
        rw [List.mem_singleton] at hf
        subst hf
        exact Or.inl hm2))
      have g11 : w11.cell? ⟨w5.heap.size, 0, none⟩ = some (.slice ad5 R1.length cap5) := T11.out.at 0 rfl
      clear M11 K11 T10 T10s g10 HF2 HCS
      go_wp2_with fail
      refine (held_of _ N _ _ _ hN9 (T11.out.mk 0 rfl)).mono ?_
      rintro e w12 ⟨rfl, b12⟩
      have T12 := hide (T11.out.below b12)
      have k12 : w12.cell? ⟨w.heap.size, 0, none⟩ = some (.slice a len cap) := T12.out.at 3 rfl
      clear b12 T11 g11
      go_wp2_with fail
      refine (to_trk T12.out H.out HBS.out HLE.out HLL.out).mono ?_
      rintro e w13 ⟨ad13, cap13, rfl, t13, -⟩
      have T13 := hide t13
      clear t13 T12 k12
      go_wp2_with fail
      refine (iwipe_trk T13.out 0 HO.out HTX.out rfl HR.out).mono ?_
      rintro e w14 ⟨ad14, cap14, rfl, t14, -⟩
      have T14 := hide (t14.cell (.slice ad14 R1.length cap14) 39)
      have v14 : (w14.alloc (.cells #[.slice ad14 R1.length cap14] 39)).cell? ⟨w3.heap.size, 0, none⟩ = some (.slice ad3 R1.length cap3) := T14.out.at 3 rfl
      clear t14 T13
      go_wp2_with fail
      generalize w14.alloc (.cells #[.slice ad14 R1.length cap14] 39) = w14a at T14 v14 ⊢
      refine (eq_trk T14.out 0 2 HOR.out rfl rfl).mono ?_
      rintro e w15 ⟨rfl, t15, -⟩
      have g15 : w15.cell? ⟨w5.heap.size, 0, none⟩ = some (.slice ad5 R1.length cap5) := t15.at 1 rfl
      have T15 := hide t15
      clear t15 T14 v14
      go_wp2_with fail
      refine (held_of _ N _ _ _ hN9 (T15.out.mk 0 rfl)).mono ?_
      rintro e w16 ⟨rfl, b16⟩
      have T16 := hide (T15.out.below b16)
      clear b16 T15 g15
      go_wp2
      go_ret
      exact ⟨rfl, T16.out.1⟩
end Go.Proofs.Ytcfkbemlldfnnan
