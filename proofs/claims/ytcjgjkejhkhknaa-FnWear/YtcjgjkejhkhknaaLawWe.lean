/-
  FnWear.
-/
import Derived.Test.YtcjgjkejhkhknaaWeMath
import Derived.Test.YtcjgjkejhkhknaaPq11
import Derived.Test.YtcjgjkejhkhknaaDPl
import Derived.Test.YtcjgjkejhkhknaaPq2
import Derived.Test.YtcjgjkejhkhknaaSNew
import Derived.Test.YtcjgjkejhkhknaaSWipe
import Derived.Test.YtcjgjkejhkhknaaIPlace
import Derived.Deep.RegionWith
namespace Go.Proofs.Ytcjgjkejhkhknaa
open Go.RowKit

theorem bl5_lens {k : Int} {bs : List Bk} {ss : List Rw} (h : Bl5 k bs) (e : ss.map tellOf = bs) : ss.length = 5 ∧ ss.length ≤ 1048576 ∧ ∀ r ∈ ss, r.2.2.2.length ≤ 1048576 := by
  subst e
  have h1 := h.1
  rw [List.length_map] at h1
  refine ⟨h1, by omega, fun r hr => ?_⟩
  have := (h.2 _ (List.mem_map_of_mem (f := tellOf) hr)).2.1
  show (tellOf r).2.2.length ≤ _
  rw [this]
  exact of_decide_eq_true rfl
theorem wipe_tk {w wi : World} {hs : List Hold} {u : Value} {l1 h1 : Nat} {bs : List Bk} {k : Int} (b : Int) (T : Tk w wi hs) (n1 : Nat) (hb : Bl5 k bs) (hk : k < 1000000000) (h0 : 0 ≤ b) (h5 : b < 5) (e1 : hs[n1]? = some (l1, h1, Fla l1 h1 u bs)) :
    Calls Try.prog 17 #[.agg #[u], .int .i64 b] wi fun e w' => ∃ (a2 : Option Addr) (c2 : Nat) (x : Bool) (bs' : List Bk), e = .returned (.tuple #[.agg #[.slice a2 5 c2], .bool x]) ∧ Hid (Bl5 (k + 1) bs') ∧ Hid (Tk w w' ((wi.heap.size, w'.heap.size, Fla wi.heap.size w'.heap.size (.slice a2 5 c2) bs') :: hs)) ∧ wi.heap.size ≤ w'.heap.size := by
  obtain ⟨ss, e, i1⟩ := T.get n1 e1
  obtain ⟨q0, q1, q2⟩ := bl5_lens hb e
  refine (swipe_any u ss l1 h1 b wi q1 q2 (T.hi n1 e1) i1).mono ?_
  rintro e w2 ⟨v1, rfl, f1, b2⟩
  have hn := hb.wipe hk b h0 h5
  rw [e] at f1
  have T2 := T.fla b2 f1
  obtain ⟨ad1, cap1, e2⟩ := f1.form
  rw [hn.1] at e2
  subst e2
  exact ⟨ad1, cap1, _, _, rfl, hn, T2, b2.size⟩
theorem place_tk {w wi : World} {hs : List Hold} {u : Value} {l1 h1 : Nat} {bs : List Bk} {k : Int} (T : Tk w wi hs) (n1 : Nat) (hb : Bl5 k bs) (e1 : hs[n1]? = some (l1, h1, Fla l1 h1 u bs)) :
    Calls Try.prog 12 #[.agg #[u]] wi fun e w' => e = .returned (plV (placeF bs)) ∧ Tk w w' hs := by
  obtain ⟨ss, e, i1⟩ := T.get n1 e1
  obtain ⟨q0, q1, q2⟩ := bl5_lens hb e
  subst e
  refine (iplace_any u ss l1 h1 wi q1 q2 (T.hi n1 e1) i1).mono ?_
  rintro e w2 ⟨rfl, b2⟩
  exact ⟨rfl, T.below b2⟩
theorem frees_tk {w wi : World} {hs : List Hold} {u : Value} {l1 h1 : Nat} {bs : List Bk} {k : Int} (T : Tk w wi hs) (n1 : Nat) (hb : Bl5 k bs) (e1 : hs[n1]? = some (l1, h1, Fla l1 h1 u bs)) :
    Calls Try.prog 16 #[.agg #[u]] wi fun e w' => ∃ a c, e = .returned (.slice a 5 c) ∧ Tk w w' hs := by
  obtain ⟨ss, e, i1⟩ := T.get n1 e1
  obtain ⟨q0, q1, q2⟩ := bl5_lens hb e
  subst e
  refine (ifree_any u ss l1 h1 wi q1 q2 (T.hi n1 e1) i1).mono ?_
  rintro e w2 ⟨v, rfl, hv, b2⟩
  obtain ⟨ad, cap, e2, -⟩ := frow_form hv
  rw [hb.frees] at e2
  subst e2
  exact ⟨ad, cap, rfl, T.below b2⟩

set_option maxHeartbeats 2000000 in
set_option maxRecDepth 100000 in
theorem lawWe (ad : Option Addr) (len cap : Nat) (w : World) (hd : CodeIn w ad len w.heap.size) :
    Calls Try.prog 4 #[.slice ad len cap] w fun e w' => e = .returned (.bool true) ∧ Below w.heap.size w w' := by
  have HD := hide hd
  clear hd
  by_cases hbig : (1048576 : Int) < len
  · go_enter Try.func4, Try.ntmps4
    go_wp2_with fail
    refine (big_any ad len cap _).mono ?_
    rintro e w1 ⟨rfl, rfl⟩
    rw [decide_eq_true hbig]
    go_wp2
    go_ret
    exact ⟨rfl, Below.refl _ _⟩
  · have hl2 : len ≤ 1048576 := by omega
    have hbd : decide ((1048576 : Int) < len) = false := decide_eq_false hbig
    clear hbig
    go_enter Try.func4, Try.ntmps4
    go_wp2_with fail
    refine (big_any ad len cap _).mono ?_
    rintro e w0 ⟨rfl, hw0⟩
    subst hw0
    rw [hbd]
    clear hbd
    go_wp2_with fail
    refine (snew_any 5 _).mono ?_
    rintro e w1 ⟨u, rfl, f1, b1⟩
    rw [show decide ((3 : Int) ≤ 5 ∧ (5 : Int) ≤ 10) = true from rfl]
    have T1 := hide ((Tk.start w0).fla b1 f1)
    obtain ⟨a1, c1, e1⟩ := f1.form
    rw [Bl5.new.1] at e1
    subst e1
    have s1 := b1.size
    have T2 := hide (T1.out.cell #[.slice a1 5 c1] 28)
    have z2 : (w1.alloc (.cells #[.slice a1 5 c1] 28)).heap.size = w1.heap.size + 1 := by simp
    have Z2 := hide z2
    clear f1 b1 T1 z2
    go_wp2_with fail
    generalize w1.alloc (.cells #[.slice a1 5 c1] 28) = w2 at T2 Z2 ⊢
    refine (places_any ad len cap w2 hl2 ((HD.out.on T2.out.1 (Nat.le_refl _)).up T2.out.1.size)).mono ?_
    rintro e w3 ⟨g, cp, l, rfl, hg1, hg2, hl12, hall, hcell, b3⟩
    have HL := hide hl12
    have HALL := hide hall
    have T3 := hide ((T2.out.below b3).put (lo := g) (hi := g + 1) (P := Nums g l) (by omega) (Nums.loc g l) (fun j x hx => by
      obtain ⟨hj, e⟩ := List.getElem?_eq_some_iff.1 hx
      rw [← e]
      exact hcell j hj))
    have hgc : w1.heap.size < g := by have := Z2.out; omega
    clear b3 hcell hall hl12 T2 hg1 hg2
    have HB0 : Hid (Bl5 ((0 : Nat) : Int) (newF 5)) := Bl5.new
    have HH0 : Hid (w1.heap.size ≤ w1.heap.size ∨ w1.heap.size + 1 ≤ w0.heap.size) := Or.inl (Nat.le_refl _)
    have HK0 : Hid (Tk w0 w3 [(w1.heap.size, w1.heap.size + 1, Cel w1.heap.size #[.slice a1 5 c1] 28), (g, g + 1, Nums g l), (w0.heap.size, w1.heap.size, Fla w0.heap.size w1.heap.size (.slice a1 5 c1) (newF 5))]) := T3.out.drop (by intro x hx; simp only [List.mem_cons, List.not_mem_nil, or_false] at hx ⊢; rcases hx with h | h | h <;> simp only [h, true_or, or_true])
    clear T3
    go_wp2
    go_loopw [6] (fun iv wr => ∃ (i : Nat) (bs : List Bk) (a : Option Addr) (c lo hi : Nat), iv = .int .i64 i ∧ i ≤ 9 ∧ Hid (Bl5 (i : Nat) bs) ∧ Hid (hi ≤ w1.heap.size ∨ w1.heap.size + 1 ≤ lo) ∧ Hid (Tk w0 wr [(w1.heap.size, w1.heap.size + 1, Cel w1.heap.size #[.slice a 5 c] 28), (g, g + 1, Nums g l), (lo, hi, Fla lo hi (.slice a 5 c) bs)])) (fun iv _ => 9 - (intOf iv).toNat)
    case atStart => exact ⟨0, _, _, _, _, _, rfl, by omega, HB0, HH0, HK0⟩
    case round =>
      obtain ⟨i, bs, a, c, lo, hi, rfl, hi9, HB, HH, HK⟩ := hrel
      clear HB0 HH0 HK0
      by_cases hlt : (i : Int) < 9
      · obtain ⟨x, hx⟩ : ∃ x, l[i]? = some x := ⟨_, List.getElem?_eq_getElem (by have := HL.out; omega)⟩
        obtain ⟨x0, x1⟩ := HALL.out x (List.mem_of_getElem? hx)
        have cx : wr.cell? ⟨g, i, none⟩ = some (.int .i64 x) := HK.out.get 1 rfl i x hx
        have cf : wr.cell? ⟨w1.heap.size, 0, none⟩ = some (.slice a 5 c) := HK.out.at 0 0 rfl rfl
        obtain ⟨r, hr⟩ : ∃ r, x % 5 = r := ⟨_, rfl⟩
        have hrt : x.tmod 5 = r := by rw [Int.tmod_eq_emod_of_nonneg (by omega)]; exact hr
        have r0 : 0 ≤ r := by omega
        have r5 : r < 5 := by omega
        have i0 : (0 : Int) ≤ i := by omega
        have i12 : (i : Int) < 12 := by omega
        have HKd := hide HK.out.drew
        have HRm := hide hr
        have R5 := hide r5
        have R0 := hide r0
        clear hx
        go_wp2
        go_region_with ((go_at_call 17; (refine (wipe_tk r HKd.out 2 HB.out (by omega) R0.out R5.out rfl).mono ?_); rintro e w4 ⟨a2, c2, xb, bs2, rfl, HB2, HK2, s4⟩; have c4 : w4.cell? ⟨w1.heap.size, 0, none⟩ = some (.slice a 5 c) := HK2.out.at 1 0 rfl rfl; have f4 : w4.frozen? ⟨w1.heap.size, 0, none⟩ = false := HK2.out.fr 1 0 rfl))
        all_goals
          have HK3 : Hid (Tk w0 (w4.setCell ⟨w1.heap.size, 0, none⟩ (.slice a2 5 c2)) [(w1.heap.size, w1.heap.size + 1, Cel w1.heap.size #[.slice a2 5 c2] 28), (g, g + 1, Nums g l), (wr.drew.heap.size, w4.heap.size, Fla wr.drew.heap.size w4.heap.size (.slice a2 5 c2) bs2)]) := by
            refine HK2.out.write 1 rfl s1 (.slice a2 5 c2) (fun x hx => ?_)
            simp only [List.mem_cons, List.not_mem_nil, or_false] at hx ⊢
            have hwr := HKd.out.hi 0 rfl
            rcases hx with h | h <;> subst h
            · exact ⟨Or.inr (Or.inr (Or.inl rfl)), Or.inr (by show w1.heap.size + 1 ≤ g; omega)⟩
            · exact ⟨Or.inl rfl, Or.inr hwr⟩
          have HH3 : Hid (w4.heap.size ≤ w1.heap.size ∨ w1.heap.size + 1 ≤ wr.drew.heap.size) := Or.inr (HKd.out.hi 0 rfl)
          have HB3 : Hid (Bl5 ((i + 1 : Nat) : Int) bs2) := HB2.out
          clear HB2 HK2 c4 f4 cf cx
          go_wp2
          go_roundw
          case rel => exact ⟨i + 1, bs2, a2, c2, _, _, by go_num, by omega, HB3, HH3, HK3⟩
          case measure => simp [intOf]; omega
      · have hi2 : i = 9 := by omega
        subst hi2
        clear hlt hi9
        obtain ⟨p, b, hp, p5, hb, hmin⟩ := HB.out.place (by omega)
        have HP := hide hp
        have HMIN := hide hmin
        have HBP := hide hb
        have cf : wr.cell? ⟨w1.heap.size, 0, none⟩ = some (.slice a 5 c) := HK.out.at 0 0 rfl rfl
        clear hp hmin hb
        go_wp2_with fail
        refine (place_tk HK.out 2 HB.out rfl).mono ?_
        rintro e w5 ⟨rfl, t5⟩
        have T5 := hide t5
        rw [HP.out]
        unfold plV
        simp only
        obtain ⟨fa, fc, e, hfa⟩ := (T5.out.get 2 rfl).form
        rw [HB.out.1] at e hfa
        injection e with e1 e2 e3
        subst e1 e3
        obtain ⟨gv, e, -, -⟩ := hfa (by omega)
        subst e
        have p0 : (0 : Int) ≤ p := by omega
        have p5' : (p : Int) < 5 := by omega
        obtain ⟨y, hy⟩ : ∃ y, b.2.1 = y := ⟨_, rfl⟩
        have RD : Hid (∀ (W : World) (i : Nat), Tk w0 W [(w1.heap.size, w1.heap.size + 1, Cel w1.heap.size #[.slice (some ⟨gv, 0, none⟩) 5 c] 28), (g, g + 1, Nums g l), (lo, hi, Fla lo hi (.slice (some ⟨gv, 0, none⟩) 5 c) bs)] → i < 5 → W.cell? ⟨gv, p * 3 + 1, none⟩ = some (.int .i64 y) ∧ ∃ z : Int, W.cell? ⟨gv, i * 3 + 1, none⟩ = some (.int .i64 z) ∧ ¬ z < y ∧ (z = y → ¬ (i : Int) < p)) := by
          intro W i hW hi5
          obtain ⟨d, hd⟩ : ∃ d, bs[i]? = some d := ⟨_, List.getElem?_eq_getElem (by rw [HB.out.1]; exact hi5)⟩
          have hm := HMIN.out i d hd
          rw [hy] at hm
          refine ⟨by rw [← hy]; exact ((hW.get 2 rfl).cells HBP.out).2.1, d.2.1, ((hW.get 2 rfl).cells hd).2.1, (by have := hm.1; omega), (fun e => by have := hm.2 e; omega)⟩
        clear t5 HK cf e2 hfa hy HMIN
        go_wp2
        go_loopw [10] (fun iv wr => ∃ i : Nat, iv = .int .i64 i ∧ i ≤ 5 ∧ Hid (Tk w0 wr [(w1.heap.size, w1.heap.size + 1, Cel w1.heap.size #[.slice (some ⟨gv, 0, none⟩) 5 c] 28), (g, g + 1, Nums g l), (lo, hi, Fla lo hi (.slice (some ⟨gv, 0, none⟩) 5 c) bs)])) (fun iv _ => 5 - (intOf iv).toNat)
        case atStart => exact ⟨0, rfl, by omega, T5⟩
        case round =>
          obtain ⟨i, rfl, hi5, HT⟩ := hrel
          clear T5
          have cf : wr.cell? ⟨w1.heap.size, 0, none⟩ = some (.slice (some ⟨gv, 0, none⟩) 5 c) := HT.out.at 0 0 rfl rfl
          by_cases hlt : (i : Int) < 5
          · obtain ⟨d1, z, d2, m1, m2⟩ := RD.out wr i HT.out (by omega)
            have i0 : (0 : Int) ≤ i := by omega
            have hd1 : decide (z < y) = false := decide_eq_false (by omega)
            have HTq := hide (fun q => HT.out.drewN q)
            by_cases hzy : z = y
            · subst hzy
              have hd2 : decide ((i : Int) < p) = false := decide_eq_false (by have := m2 rfl; omega)
              have hip : ¬ (i : Int) < p := by have := m2 rfl; omega
              clear m2
              go_wp2
              go_quiet (fail)
              go_wp2
              go_roundw
              case rel => exact ⟨i + 1, by go_num, by omega, HTq.out _⟩
              case measure => simp [intOf]; omega
            · have hd2 : (z == y) = false := by simpa using hzy
              clear m2
              go_wp2
              go_quiet (fail)
              go_wp2
              go_roundw
              case rel => exact ⟨i + 1, by go_num, by omega, HTq.out _⟩
              case measure => simp [intOf]; omega
          · go_wp2_with fail
            refine (frees_tk HT.out 2 HB.out rfl).mono ?_
            rintro e w6 ⟨fa, fc, rfl, t6⟩
            have B6 := hide t6.1
            clear t6 HT cf
            go_wp2
            go_ret
            exact ⟨rfl, B6.out⟩
end Go.Proofs.Ytcjgjkejhkhknaa
